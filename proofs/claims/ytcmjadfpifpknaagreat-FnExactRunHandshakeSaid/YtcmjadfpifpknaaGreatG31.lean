/- Handshakes under attack: by the model. The helpers of the exact laws at lists of extensions: marked, looked at. The helpers of the exact laws at hellos and answers: marked, looked at. How a hello and an answer among the arguments are read. -/
import Derived.Test.YtcmjadfpifpknaaGreatG25
import Derived.Test.YtcmjadfpifpknaaGreatG27
import Derived.Test.YtcmjadfpifpknaaGreatG28
import Derived.Test.YtcmjadfpifpknaaGreatG30
import Derived.Test.YtcmjadfpifpknaaGreatG14
import Derived.Deep.QuietTactic
import Derived.BigQuiet
import Derived.RegionTactic
import Derived.Handy
import Derived.Test.YtcmjadfpifpknaaGreatG21
import Derived.Test.YtcmjadfpifpknaaGreatG12
import Derived.Test.YtcmjadfpifpknaaGreatG8
import Derived.Lib.SmallJoins
import Derived.Deep.Slices
import Derived.Deep.Fields
namespace Go.Proofs.YtcmjadfpifpknaaGreat
open Go.ChangeShapes Go.WideShapes Go.ChangeAt Go.RowKit
set_option linter.unusedVariables false
set_option linter.unusedSimpArgs false

theorem FreeH.own {B : Nat} {w : World} {v : Value} {x : Hel} (h : FreeH B w v x) (hB : B ≤ w.heap.size) : OwnHel w.heap.size w B v x := by
  obtain ⟨a, n, c, b, m, d, lo, hi, lo', hi', rfl, o1, o2, o3, l1, l2, l3, l4, l5, l6⟩ := h
  exact own_hel o1 o2 o3 l1 l4 l6 l3 (Or.inl l2) (Nat.le_refl _)
theorem edA_nothing (x : Ans) : edA x ⟨0, 0⟩ = x := by
  unfold edA
  rw [if_neg (by decide), if_neg (by decide)]
theorem len_pair (X : Hel) (Y : Ans) : ∀ l ∈ [helB X, ansB Y], l.length ≤ 1000000000 := fun l hl => by
  have h1 := helB_few X
  have h2 := ansB_few Y
  rcases List.mem_cons.1 hl with rfl | hl
  · omega
  · obtain rfl := List.mem_singleton.1 hl
    omega
set_option maxHeartbeats 4000000 in
set_option maxRecDepth 100000 in
theorem specrun_odd {w : World} {v : Value} {x : Hel} {va ta ea : Option Addr} {vn vc tn tc en ec : Nat} {vs ts : List Int} {es : List Et} (key : Int) (h : HelW w v x) (h1 : Nums .i64 w va vn vs) (h2 : Nums .i64 w ta tn ts) (hz : ∀ z ∈ ts, (Lit.int .i64 z).wf = true) (he : Ets w ea en es) (hes : ∀ e ∈ es, e.wf) (hn : vn ≤ 1048576) (hm : tn ≤ 1048576) (hx : isH x = false) :
    Calls Tryz.prog 23 #[v, .slice va vn vc, .slice ta tn tc, .int .i64 key, .slice ea en ec] w (MadeDl w.heap.size (runH x vs ts key es) w) := by
  obtain ⟨a, n, c, b, m, d, rfl⟩ := h.shape
  obtain ⟨hsz, hX, hR, hB0⟩ := two w #[.slice a n c, .slice b m d] #[.bool false, .int .i64 0, .slice none 0 0] 27 32
  have hel := he.len
  have hef := he.fits
  have HX := Lib.hid hX
  have HR := Lib.hid hR
  have HB := Lib.hid hB0
  have H := Lib.hid (fun w9 (h9 : Below w.heap.size w w9) => h.same h9)
  have H12 := Lib.hid (fun w9 (h9 : Below w.heap.size w w9) => And.intro (h1.same h9) (h2.same h9))
  have HZ := Lib.hid hz
  have HEs := Lib.hid (fun w9 (h9 : Below w.heap.size w w9) => he.same h9)
  have HWf := Lib.hid hes
  have KH := Lib.hid (specIsHello_any (h.same hB0))
  have HE := Lib.hid (runH_no (vs := vs) (ts := ts) (key := key) (es := es) (Or.inl hx))
  rw [hx] at KH
  clear h h1 h2 hz he hes hX hR hB0 hx
  obtain ⟨x0, x1, -⟩ := two_cells HX.out
  unfold MadeDl
  go_enter Tryz.func23, Tryz.ntmps23
  go_wp2_with fail
  clear x0 x1
  generalize ((w.alloc (.cells #[.slice a n c, .slice b m d] 27)).alloc (.cells #[.bool false, .int .i64 0, .slice none 0 0] 32)) = W0 at *
  refine KH.out.mono ?_
  rintro e1 w1 ⟨rfl, hb1⟩
  have HB1 : Hid (Below W0.heap.size W0 w1) := Lib.hid hb1
  have hs1 : W0.heap.size ≤ w1.heap.size := hb1.size
  clear hb1
  have HR1 := Lib.hid ((HB1.out.block (w.heap.size + 1) (by omega)).trans HR.out)
  obtain ⟨m0, m1, m2, q0, q1, q2⟩ := deal_cells HR1.out
  obtain ⟨z0, z1, z2, -⟩ := deal_put HR1.out (.bool false) (.int .i64 0) (.slice none 0 0)
  have hin := deal_inside w1 (w.heap.size + 1) (.bool false) (.int .i64 0) (.slice none 0 0)
  go_wp2_with fail
  (try simp only [Exit.inBlock, Exit.then])
  refine bodyPost_ret (by simp [results, Tryz.results23, go_sem, z0, z1, z2]; try rfl) rfl ?_
  rw [HE.out]
  exact ⟨_, rfl, no_dl (by have := HB1.out.size; simp only [World.size_setCell]; omega), hin.to (HB.out.trans (HB1.out.mono HB.out.size)) (by omega) (by have := HB1.out.size; omega)⟩
set_option maxHeartbeats 4000000 in
set_option maxRecDepth 100000 in
theorem specrun_many {w : World} {v : Value} {x : Hel} {va ta ea : Option Addr} {vn vc tn tc en ec : Nat} {vs ts : List Int} {es : List Et} (key : Int) (h : HelW w v x) (h1 : Nums .i64 w va vn vs) (h2 : Nums .i64 w ta tn ts) (hz : ∀ z ∈ ts, (Lit.int .i64 z).wf = true) (he : Ets w ea en es) (hes : ∀ e ∈ es, e.wf) (hn : vn ≤ 1048576) (hm : tn ≤ 1048576) (hx : isH x = true) (h6 : 6 < en) :
    Calls Tryz.prog 23 #[v, .slice va vn vc, .slice ta tn tc, .int .i64 key, .slice ea en ec] w (MadeDl w.heap.size (runH x vs ts key es) w) := by
  obtain ⟨a, n, c, b, m, d, rfl⟩ := h.shape
  obtain ⟨hsz, hX, hR, hB0⟩ := two w #[.slice a n c, .slice b m d] #[.bool false, .int .i64 0, .slice none 0 0] 27 32
  have hel := he.len
  have hef := he.fits
  have HX := Lib.hid hX
  have HR := Lib.hid hR
  have HB := Lib.hid hB0
  have H := Lib.hid (fun w9 (h9 : Below w.heap.size w w9) => h.same h9)
  have H12 := Lib.hid (fun w9 (h9 : Below w.heap.size w w9) => And.intro (h1.same h9) (h2.same h9))
  have HZ := Lib.hid hz
  have HEs := Lib.hid (fun w9 (h9 : Below w.heap.size w w9) => he.same h9)
  have HWf := Lib.hid hes
  have KH := Lib.hid (specIsHello_any (h.same hB0))
  have HE := Lib.hid (runH_no (x := x) (vs := vs) (ts := ts) (key := key) (es := es) (Or.inr (by omega)))
  rw [hx] at KH
  clear h h1 h2 hz he hes hX hR hB0 hx
  obtain ⟨x0, x1, -⟩ := two_cells HX.out
  unfold MadeDl
  go_enter Tryz.func23, Tryz.ntmps23
  go_wp2_with fail
  clear x0 x1
  generalize ((w.alloc (.cells #[.slice a n c, .slice b m d] 27)).alloc (.cells #[.bool false, .int .i64 0, .slice none 0 0] 32)) = W0 at *
  refine KH.out.mono ?_
  rintro e1 w1 ⟨rfl, hb1⟩
  have HB1 : Hid (Below W0.heap.size W0 w1) := Lib.hid hb1
  have hs1 : W0.heap.size ≤ w1.heap.size := hb1.size
  clear hb1
  have HR1 := Lib.hid ((HB1.out.block (w.heap.size + 1) (by omega)).trans HR.out)
  obtain ⟨m0, m1, m2, q0, q1, q2⟩ := deal_cells HR1.out
  obtain ⟨z0, z1, z2, -⟩ := deal_put HR1.out (.bool false) (.int .i64 0) (.slice none 0 0)
  have hin := deal_inside w1 (w.heap.size + 1) (.bool false) (.int .i64 0) (.slice none 0 0)
  go_wp2_with fail
  (try simp only [Exit.inBlock, Exit.then])
  refine bodyPost_ret (by simp [results, Tryz.results23, go_sem, z0, z1, z2]; try rfl) rfl ?_
  rw [HE.out]
  exact ⟨_, rfl, no_dl (by have := HB1.out.size; simp only [World.size_setCell]; omega), hin.to (HB.out.trans (HB1.out.mono HB.out.size)) (by omega) (by have := HB1.out.size; omega)⟩
set_option maxHeartbeats 4000000 in
set_option maxRecDepth 100000 in
theorem specrun_none {w : World} {v : Value} {x : Hel} {va ta ea : Option Addr} {vn vc tn tc en ec : Nat} {vs ts : List Int} {es : List Et} (key : Int) (h : HelW w v x) (h1 : Nums .i64 w va vn vs) (h2 : Nums .i64 w ta tn ts) (hz : ∀ z ∈ ts, (Lit.int .i64 z).wf = true) (he : Ets w ea en es) (hes : ∀ e ∈ es, e.wf) (hn : vn ≤ 1048576) (hm : tn ≤ 1048576) (hx : isH x = true) (h6 : en ≤ 6) (hch : chA vs ts (edHs x es) = none) :
    Calls Tryz.prog 23 #[v, .slice va vn vc, .slice ta tn tc, .int .i64 key, .slice ea en ec] w (MadeDl w.heap.size (runH x vs ts key es) w) := by
  obtain ⟨a, n, c, b, m, d, rfl⟩ := h.shape
  obtain ⟨hsz, hX, hR, hB0⟩ := two w #[.slice a n c, .slice b m d] #[.bool false, .int .i64 0, .slice none 0 0] 27 32
  have hel := he.len
  have hef := he.fits
  have HX := Lib.hid hX
  have HR := Lib.hid hR
  have HB := Lib.hid hB0
  have H := Lib.hid (fun w9 (h9 : Below w.heap.size w w9) => h.same h9)
  have H12 := Lib.hid (fun w9 (h9 : Below w.heap.size w w9) => And.intro (h1.same h9) (h2.same h9))
  have HZ := Lib.hid hz
  have HEs := Lib.hid (fun w9 (h9 : Below w.heap.size w w9) => he.same h9)
  have HWf := Lib.hid hes
  have KH := Lib.hid (specIsHello_any (h.same hB0))
  have HE := Lib.hid (runH_none (x := x) (key := key) hch)
  have HIx := Lib.hid hx
  have HCh := Lib.hid (chA_none hch)
  rw [hx] at KH
  clear h h1 h2 hz he hes hX hR hB0 hx hch
  obtain ⟨x0, x1, -⟩ := two_cells HX.out
  unfold MadeDl
  go_enter Tryz.func23, Tryz.ntmps23
  go_wp2_with fail
  clear x0 x1
  generalize ((w.alloc (.cells #[.slice a n c, .slice b m d] 27)).alloc (.cells #[.bool false, .int .i64 0, .slice none 0 0] 32)) = W0 at *
  refine KH.out.mono ?_
  rintro e1 w1 ⟨rfl, hb1⟩
  have HB1 : Hid (Below W0.heap.size W0 w1) := Lib.hid hb1
  have hs1 : W0.heap.size ≤ w1.heap.size := hb1.size
  clear hb1
  have HXa := Lib.hid ((HB1.out.block w.heap.size (by omega)).trans HX.out)
  obtain ⟨x0, x1, -⟩ := two_cells HXa.out
  obtain ⟨hx1, hx2, hx3⟩ := isH_few HIx.out
  have KE := Lib.hid (specHello18_any (H.out _ (HB.out.trans (HB1.out.mono HB.out.size))) (by omega) (by omega) (by omega))
  go_wp2_with fail
  refine KE.out.mono ?_
  rintro e2 w2 ⟨v2, rfl, hv2, hb2⟩
  have ho2 := hv2.own hb2.size
  obtain ⟨a1, n1, c1, b1, m1, d1, rfl⟩ := ho2.shape
  have HB2 : Hid (Below W0.heap.size W0 w2) := Lib.hid (HB1.out.trans (hb2.mono HB1.out.size))
  have hs2 : W0.heap.size ≤ w2.heap.size := HB2.out.size
  have HAL := Lib.hid (alloc_same w2 (.cells #[.slice a1 n1 c1, .slice b1 m1 d1] 27))
  have HOw := Lib.hid ((ho2.lower hs1).same HAL.out)
  have HG : Hid ((w2.alloc (.cells #[.slice a1 n1 c1, .slice b1 m1 d1] 27)).heap[w2.heap.size]? = some (.cells #[.slice a1 n1 c1, .slice b1 m1 d1] 27 (0, 0))) := Lib.hid (heap_alloc_new w2 _)
  have hgX : w2.heap.size < (w2.alloc (.cells #[.slice a1 n1 c1, .slice b1 m1 d1] 27)).heap.size := by simp
  have HB3 : Hid (Below W0.heap.size W0 (w2.alloc (.cells #[.slice a1 n1 c1, .slice b1 m1 d1] 27))) := Lib.hid (HB2.out.trans (HAL.out.mono HB2.out.size))
  clear hv2 ho2 hb2 KE x0 x1 HAL
  go_wp2_with fail
  go_loopw [12] (fun i wr => ∃ j : Nat, j ≤ en ∧ i = .int .i64 j ∧ ∃ (a1 : Option Addr) (n1 c1 : Nat) (b1 : Option Addr) (m1 d1 S B : Nat), wr.heap[w2.heap.size]? = some (.cells #[.slice a1 n1 c1, .slice b1 m1 d1] 27 (0, 0)) ∧ OwnHel S wr B (.agg #[.slice a1 n1 c1, .slice b1 m1 d1]) (edHs x (es.take j)) ∧ (S ≤ w2.heap.size ∨ w2.heap.size < B) ∧ Below W0.heap.size W0 wr ∧ w2.heap.size < wr.heap.size) (fun i _ => en - (intOf i).toNat)
  case atStart => exact ⟨0, Nat.zero_le _, rfl, a1, n1, c1, b1, m1, d1, w2.heap.size, W0.heap.size, HG.out, HOw.out, Or.inl (Nat.le_refl _), HB3.out, hgX⟩
  case round =>
    obtain ⟨j, hj, rfl, a1, n1, c1, b1, m1, d1, S1, B1, hbx, how, hsep, hbw, hgl⟩ := hrel
    have HGr := Lib.hid hbx
    have HOr := Lib.hid how
    have HBr := Lib.hid hbw
    have hsr : W0.heap.size ≤ wr.heap.size := hbw.size
    clear hbx how hbw
    by_cases hlt : j < en
    · obtain ⟨eb, eo, ed, rfl, hed, k0, k1⟩ := ets_at (HEs.out w (Below.refl _ _)) hlt
      have heb : eb < w.heap.size := cell_in k0
      have CEd := Lib.hid (And.intro (cell_stay k0 (HB.out.trans (HBr.out.mono HB.out.size))) (cell_stay k1 (HB.out.trans (HBr.out.mono HB.out.size))))
      have HWe := Lib.hid (HWf.out ed (List.mem_of_getElem? hed)).1
      obtain ⟨hf1, hf2, hf3⟩ := isH_few (edHs_is HIx.out (es.take j))
      have HS : Hid (edHs x (es.take (j + 1)) = edH (edHs x (es.take j)) ed) := Lib.hid (edHs_step hed)
      have HBd : Hid (Below wr.heap.size wr wr.drew) := Lib.hid (Below.refl _ _).drew
      have hd0 : wr.heap.size ≤ wr.drew.heap.size := Nat.le_refl _
      clear hed k0 k1
      go_wp2_with fail
      refine wp_region_held_drew (S := fun w9 => w9.cell? ⟨eb, eo + j * 2, none⟩ = some (.int .i64 ed.kind) ∧ w9.cell? ⟨eb, eo + j * 2 + 1, none⟩ = some (.int .i64 ed.n)) (by kernel_rfl) ⟨(cell_stay CEd.out.1 HBd.out), (cell_stay CEd.out.2 HBd.out)⟩ (fun hHeld => ?_)
      refine wpAnyH_take (i := 1) (v := ?v18) (by simp only [List.getElem?_toArray, List.getElem?_cons_succ, List.getElem?_cons_zero]; rfl) (by kernel_rfl) (by kernel_rfl) (by kernel_rfl) (by exact fun _ _ _ h => h) (Or.inl ⟨by rfl, fun w9 hS9 => ?hy18⟩) hHeld ?rest18
      case hy18 =>
        dsimp only at hS9
        obtain ⟨y0, y1⟩ := hS9
        go_simp
        try with_reducible rfl
      try simp only [Act.put, List.setIfInBounds_toArray, List.set_cons_zero, List.set_cons_succ]
      refine wpAnyH_take (i := 2) (v := ?v19) (by simp only [List.getElem?_toArray, List.getElem?_cons_succ, List.getElem?_cons_zero]; rfl) (by kernel_rfl) (by kernel_rfl) (by kernel_rfl) (by exact fun _ _ _ h => h) (Or.inl ⟨by rfl, fun w9 hS9 => ?hy19⟩) hHeld ?rest19
      case hy19 =>
        dsimp only at hS9
        obtain ⟨y0, y1⟩ := hS9
        go_simp
        try with_reducible rfl
      try simp only [Act.put, List.setIfInBounds_toArray, List.set_cons_zero, List.set_cons_succ]
      refine wpAnyH_take (i := 3) (v := ?v20) (by simp only [List.getElem?_toArray, List.getElem?_cons_succ, List.getElem?_cons_zero]; rfl) (by kernel_rfl) (by kernel_rfl) (by kernel_rfl) (by exact fun _ _ _ h => h) (Or.inl ⟨by rfl, fun w9 hS9 => ?hy20⟩) hHeld ?rest20
      case hy20 =>
        dsimp only at hS9
        obtain ⟨y0, y1⟩ := hS9
        go_simp
        try with_reducible rfl
      try simp only [Act.put, List.setIfInBounds_toArray, List.set_cons_zero, List.set_cons_succ]
      refine wpAnyH_take (i := 4) (v := ?v21) (by simp only [List.getElem?_toArray, List.getElem?_cons_succ, List.getElem?_cons_zero]; rfl) (by kernel_rfl) (by kernel_rfl) (by kernel_rfl) (by exact fun _ _ _ h => h) (Or.inl ⟨by rfl, fun w9 hS9 => ?hy21⟩) hHeld ?rest21
      case hy21 =>
        dsimp only at hS9
        obtain ⟨y0, y1⟩ := hS9
        go_simp
        try with_reducible rfl
      try simp only [Act.put, List.setIfInBounds_toArray, List.set_cons_zero, List.set_cons_succ]
      refine wpAnyH_ready (rs := [0]) (by kernel_rfl) (by simp) (AllReadyH.cons (by simp only [List.getElem?_toArray, List.getElem?_cons_succ, List.getElem?_cons_zero]; rfl) (fun K hK => ?_) AllReadyH.nil)
      obtain ⟨l0, l1, -⟩ := two_cells ((HBd.out.block w2.heap.size hgl).trans HGr.out)
      go_simp
      clear l0 l1
      refine hK.out _ _ ⟨(cell_stay CEd.out.1 HBd.out), (cell_stay CEd.out.2 HBd.out)⟩ (fun hHeld => ?_)
      clear hK K
      try simp only [Act.put, List.setIfInBounds_toArray, List.set_cons_zero, List.set_cons_succ]
      refine wpAnyH_ready (rs := [5]) (by kernel_rfl) (by simp) (AllReadyH.cons (by simp only [List.getElem?_toArray, List.getElem?_cons_succ, List.getElem?_cons_zero]; rfl) (fun K hK => ?_) AllReadyH.nil)
      go_simp
      refine (specEditHello_any (e := ed) (HOr.out.same HBd.out) HWe.out (by omega) (by omega) (by omega)).mono ?_
      rintro e5 w5 ⟨v5, rfl, ho5, hb5⟩
      obtain ⟨a5, n5, c5, b5, m5, d5, rfl⟩ := ho5.shape
      have HB5 : Hid (Below wr.heap.size wr w5) := Lib.hid (HBd.out.trans hb5)
      have HO5 := Lib.hid ho5
      have hs5 : wr.heap.size ≤ w5.heap.size := HB5.out.size
      clear ho5 hb5
      go_wp2_with fail
      refine hK.out _ _ ⟨(cell_stay CEd.out.1 HB5.out), (cell_stay CEd.out.2 HB5.out)⟩ (fun hHeld => ?_)
      clear hK K
      try simp only [Act.put, List.setIfInBounds_toArray, List.set_cons_zero, List.set_cons_succ]
      refine wpAnyH_ready (rs := [6]) (by kernel_rfl) (by simp) (AllReadyH.cons (by simp only [List.getElem?_toArray, List.getElem?_cons_succ, List.getElem?_cons_zero]; rfl) (fun K hK => ?_) AllReadyH.nil)
      have HG5 := Lib.hid ((HB5.out.block w2.heap.size hgl).trans HGr.out)
      obtain ⟨m0, m1q, q0, q1⟩ := two_cells HG5.out
      obtain ⟨z0, z1, hZ⟩ := two_put HG5.out (.slice a5 n5 c5) (.slice b5 m5 d5)
      have hgr := set2_grown w5 w2.heap.size (.slice a5 n5 c5) (.slice b5 m5 d5)
      have hne : eb ≠ w2.heap.size := by have := HB.out.size; omega
      go_simp
      refine hK.out _ _ ⟨(cell_off (cell_stay CEd.out.1 HB5.out) hgr (by simpa using fun q => hne q.symm)), (cell_off (cell_stay CEd.out.2 HB5.out) hgr (by simpa using fun q => hne q.symm))⟩ (fun hHeld => ?_)
      clear hK K
      try simp only [Act.put, List.setIfInBounds_toArray, List.set_cons_zero, List.set_cons_succ]
      refine wpAnyH_done (by kernel_rfl) ?_ _
      go_wp2_with fail
      have hin := one_inside hgr
      go_roundw
      case rel => exact ⟨j + 1, by omega, by go_num, a5, n5, c5, b5, m5, d5, w5.heap.size, wr.drew.heap.size, hZ, by rw [HS.out]; exact HO5.out.aside hin (Or.inl (by omega)), Or.inr (by omega), hin.to (HBr.out.trans (HB5.out.mono hsr)) (by omega) (by omega), by simp; omega⟩
      case measure => simp [intOf]; omega
    · have hall : es.take j = es := List.take_of_length_le (by omega)
      have HOr2 : Hid (OwnHel S1 wr B1 (.agg #[.slice a1 n1 c1, .slice b1 m1 d1]) (edHs x es)) := Lib.hid (hall ▸ HOr.out)
      clear hall HOr
      obtain ⟨g0, g1, -⟩ := two_cells HGr.out
      have KC := Lib.hid (specChooseAnswer_any (c := vc) (d := tc) (H12.out _ (HB.out.trans (HBr.out.mono HB.out.size))).1 (H12.out _ (HB.out.trans (HBr.out.mono HB.out.size))).2 HOr2.out.hel HZ.out hn hm)
      rw [HCh.out.1, HCh.out.2] at KC
      go_wp2_with fail
      refine KC.out.mono ?_
      rintro e3 w3 ⟨v3, rfl, ho3, hb3⟩
      obtain ⟨p3, k3, r3, rfl⟩ := ho3.shape
      have HB4 : Hid (Below W0.heap.size W0 w3) := Lib.hid (HBr.out.trans (hb3.mono HBr.out.size))
      have HB5 : Hid (Below W0.heap.size W0 (w3.alloc (.cells #[.int .i64 0, .slice p3 k3 r3] 44))) := Lib.hid (HB4.out.trans ((alloc_same _ _).mono HB4.out.size))
      have HR5 := Lib.hid ((HB5.out.block (w.heap.size + 1) (by omega)).trans HR.out)
      clear ho3 hb3 KC g0 g1
      obtain ⟨m0, m1, m2, q0, q1, q2⟩ := deal_cells HR5.out
      obtain ⟨z0, z1, z2, -⟩ := deal_put HR5.out (.bool false) (.int .i64 0) (.slice none 0 0)
      have hin := deal_inside (w3.alloc (.cells #[.int .i64 0, .slice p3 k3 r3] 44)) (w.heap.size + 1) (.bool false) (.int .i64 0) (.slice none 0 0)
      go_wp2_with fail
      (try simp only [Exit.inBlock, Exit.then])
      refine bodyPost_ret (by simp [results, Tryz.results23, go_sem, z0, z1, z2]; try rfl) rfl ?_
      rw [HE.out]
      exact ⟨_, rfl, no_dl (by have := HB5.out.size; simp only [World.size_setCell]; omega), hin.to (HB.out.trans (HB5.out.mono HB.out.size)) (by omega) (by have := HB5.out.size; omega)⟩
set_option maxHeartbeats 4000000 in
set_option maxRecDepth 100000 in
theorem specrun_some {w : World} {v : Value} {x : Hel} {va ta ea : Option Addr} {vn vc tn tc en ec : Nat} {vs ts : List Int} {es : List Et} (key : Int) (h : HelW w v x) (h1 : Nums .i64 w va vn vs) (h2 : Nums .i64 w ta tn ts) (hz : ∀ z ∈ ts, (Lit.int .i64 z).wf = true) (he : Ets w ea en es) (hes : ∀ e ∈ es, e.wf) (hn : vn ≤ 1048576) (hm : tn ≤ 1048576) {an : Ans} (hx : isH x = true) (h6 : en ≤ 6) (hch : chA vs ts (edHs x es) = some an) :
    Calls Tryz.prog 23 #[v, .slice va vn vc, .slice ta tn tc, .int .i64 key, .slice ea en ec] w (MadeDl w.heap.size (dealP key x (edHs x es) an (edAs an es)) w) := by
  obtain ⟨a, n, c, b, m, d, rfl⟩ := h.shape
  obtain ⟨hsz, hX, hR, hB0⟩ := two w #[.slice a n c, .slice b m d] #[.bool false, .int .i64 0, .slice none 0 0] 27 32
  have hel := he.len
  have hef := he.fits
  have HX := Lib.hid hX
  have HR := Lib.hid hR
  have HB := Lib.hid hB0
  have H := Lib.hid (fun w9 (h9 : Below w.heap.size w w9) => h.same h9)
  have H12 := Lib.hid (fun w9 (h9 : Below w.heap.size w w9) => And.intro (h1.same h9) (h2.same h9))
  have HZ := Lib.hid hz
  have HEs := Lib.hid (fun w9 (h9 : Below w.heap.size w w9) => he.same h9)
  have HWf := Lib.hid hes
  have KH := Lib.hid (specIsHello_any (h.same hB0))
  have HIx := Lib.hid hx
  have HIa := Lib.hid (chA_is hch)
  have HCh := Lib.hid (chA_some hch)
  rw [hx] at KH
  clear h h1 h2 hz he hes hX hR hB0 hx hch
  obtain ⟨x0, x1, -⟩ := two_cells HX.out
  unfold MadeDl
  go_enter Tryz.func23, Tryz.ntmps23
  go_wp2_with fail
  clear x0 x1
  generalize ((w.alloc (.cells #[.slice a n c, .slice b m d] 27)).alloc (.cells #[.bool false, .int .i64 0, .slice none 0 0] 32)) = W0 at *
  refine KH.out.mono ?_
  rintro e1 w1 ⟨rfl, hb1⟩
  have HB1 : Hid (Below W0.heap.size W0 w1) := Lib.hid hb1
  have hs1 : W0.heap.size ≤ w1.heap.size := hb1.size
  clear hb1
  have HXa := Lib.hid ((HB1.out.block w.heap.size (by omega)).trans HX.out)
  obtain ⟨x0, x1, -⟩ := two_cells HXa.out
  obtain ⟨hx1, hx2, hx3⟩ := isH_few HIx.out
  have KE := Lib.hid (specHello18_any (H.out _ (HB.out.trans (HB1.out.mono HB.out.size))) (by omega) (by omega) (by omega))
  go_wp2_with fail
  refine KE.out.mono ?_
  rintro e2 w2 ⟨v2, rfl, hv2, hb2⟩
  have ho2 := hv2.own hb2.size
  obtain ⟨a1, n1, c1, b1, m1, d1, rfl⟩ := ho2.shape
  have HB2 : Hid (Below W0.heap.size W0 w2) := Lib.hid (HB1.out.trans (hb2.mono HB1.out.size))
  have hs2 : W0.heap.size ≤ w2.heap.size := HB2.out.size
  have HAL := Lib.hid (alloc_same w2 (.cells #[.slice a1 n1 c1, .slice b1 m1 d1] 27))
  have HOw := Lib.hid ((ho2.lower hs1).same HAL.out)
  have HG : Hid ((w2.alloc (.cells #[.slice a1 n1 c1, .slice b1 m1 d1] 27)).heap[w2.heap.size]? = some (.cells #[.slice a1 n1 c1, .slice b1 m1 d1] 27 (0, 0))) := Lib.hid (heap_alloc_new w2 _)
  have hgX : w2.heap.size < (w2.alloc (.cells #[.slice a1 n1 c1, .slice b1 m1 d1] 27)).heap.size := by simp
  have HB3 : Hid (Below W0.heap.size W0 (w2.alloc (.cells #[.slice a1 n1 c1, .slice b1 m1 d1] 27))) := Lib.hid (HB2.out.trans (HAL.out.mono HB2.out.size))
  clear hv2 ho2 hb2 KE x0 x1 HAL
  go_wp2_with fail
  go_loopw [12] (fun i wr => ∃ j : Nat, j ≤ en ∧ i = .int .i64 j ∧ ∃ (a1 : Option Addr) (n1 c1 : Nat) (b1 : Option Addr) (m1 d1 S B : Nat), wr.heap[w2.heap.size]? = some (.cells #[.slice a1 n1 c1, .slice b1 m1 d1] 27 (0, 0)) ∧ OwnHel S wr B (.agg #[.slice a1 n1 c1, .slice b1 m1 d1]) (edHs x (es.take j)) ∧ (S ≤ w2.heap.size ∨ w2.heap.size < B) ∧ Below W0.heap.size W0 wr ∧ w2.heap.size < wr.heap.size) (fun i _ => en - (intOf i).toNat)
  case atStart => exact ⟨0, Nat.zero_le _, rfl, a1, n1, c1, b1, m1, d1, w2.heap.size, W0.heap.size, HG.out, HOw.out, Or.inl (Nat.le_refl _), HB3.out, hgX⟩
  case round =>
    obtain ⟨j, hj, rfl, a1, n1, c1, b1, m1, d1, S1, B1, hbx, how, hsep, hbw, hgl⟩ := hrel
    have HGr := Lib.hid hbx
    have HOr := Lib.hid how
    have HBr := Lib.hid hbw
    have hsr : W0.heap.size ≤ wr.heap.size := hbw.size
    clear hbx how hbw
    by_cases hlt : j < en
    · obtain ⟨eb, eo, ed, rfl, hed, k0, k1⟩ := ets_at (HEs.out w (Below.refl _ _)) hlt
      have heb : eb < w.heap.size := cell_in k0
      have CEd := Lib.hid (And.intro (cell_stay k0 (HB.out.trans (HBr.out.mono HB.out.size))) (cell_stay k1 (HB.out.trans (HBr.out.mono HB.out.size))))
      have HWe := Lib.hid (HWf.out ed (List.mem_of_getElem? hed)).1
      obtain ⟨hf1, hf2, hf3⟩ := isH_few (edHs_is HIx.out (es.take j))
      have HS : Hid (edHs x (es.take (j + 1)) = edH (edHs x (es.take j)) ed) := Lib.hid (edHs_step hed)
      have HBd : Hid (Below wr.heap.size wr wr.drew) := Lib.hid (Below.refl _ _).drew
      have hd0 : wr.heap.size ≤ wr.drew.heap.size := Nat.le_refl _
      clear hed k0 k1
      go_wp2_with fail
      refine wp_region_held_drew (S := fun w9 => w9.cell? ⟨eb, eo + j * 2, none⟩ = some (.int .i64 ed.kind) ∧ w9.cell? ⟨eb, eo + j * 2 + 1, none⟩ = some (.int .i64 ed.n)) (by kernel_rfl) ⟨(cell_stay CEd.out.1 HBd.out), (cell_stay CEd.out.2 HBd.out)⟩ (fun hHeld => ?_)
      refine wpAnyH_take (i := 1) (v := ?v22) (by simp only [List.getElem?_toArray, List.getElem?_cons_succ, List.getElem?_cons_zero]; rfl) (by kernel_rfl) (by kernel_rfl) (by kernel_rfl) (by exact fun _ _ _ h => h) (Or.inl ⟨by rfl, fun w9 hS9 => ?hy22⟩) hHeld ?rest22
      case hy22 =>
        dsimp only at hS9
        obtain ⟨y0, y1⟩ := hS9
        go_simp
        try with_reducible rfl
      try simp only [Act.put, List.setIfInBounds_toArray, List.set_cons_zero, List.set_cons_succ]
      refine wpAnyH_take (i := 2) (v := ?v23) (by simp only [List.getElem?_toArray, List.getElem?_cons_succ, List.getElem?_cons_zero]; rfl) (by kernel_rfl) (by kernel_rfl) (by kernel_rfl) (by exact fun _ _ _ h => h) (Or.inl ⟨by rfl, fun w9 hS9 => ?hy23⟩) hHeld ?rest23
      case hy23 =>
        dsimp only at hS9
        obtain ⟨y0, y1⟩ := hS9
        go_simp
        try with_reducible rfl
      try simp only [Act.put, List.setIfInBounds_toArray, List.set_cons_zero, List.set_cons_succ]
      refine wpAnyH_take (i := 3) (v := ?v24) (by simp only [List.getElem?_toArray, List.getElem?_cons_succ, List.getElem?_cons_zero]; rfl) (by kernel_rfl) (by kernel_rfl) (by kernel_rfl) (by exact fun _ _ _ h => h) (Or.inl ⟨by rfl, fun w9 hS9 => ?hy24⟩) hHeld ?rest24
      case hy24 =>
        dsimp only at hS9
        obtain ⟨y0, y1⟩ := hS9
        go_simp
        try with_reducible rfl
      try simp only [Act.put, List.setIfInBounds_toArray, List.set_cons_zero, List.set_cons_succ]
      refine wpAnyH_take (i := 4) (v := ?v25) (by simp only [List.getElem?_toArray, List.getElem?_cons_succ, List.getElem?_cons_zero]; rfl) (by kernel_rfl) (by kernel_rfl) (by kernel_rfl) (by exact fun _ _ _ h => h) (Or.inl ⟨by rfl, fun w9 hS9 => ?hy25⟩) hHeld ?rest25
      case hy25 =>
        dsimp only at hS9
        obtain ⟨y0, y1⟩ := hS9
        go_simp
        try with_reducible rfl
      try simp only [Act.put, List.setIfInBounds_toArray, List.set_cons_zero, List.set_cons_succ]
      refine wpAnyH_ready (rs := [0]) (by kernel_rfl) (by simp) (AllReadyH.cons (by simp only [List.getElem?_toArray, List.getElem?_cons_succ, List.getElem?_cons_zero]; rfl) (fun K hK => ?_) AllReadyH.nil)
      obtain ⟨l0, l1, -⟩ := two_cells ((HBd.out.block w2.heap.size hgl).trans HGr.out)
      go_simp
      clear l0 l1
      refine hK.out _ _ ⟨(cell_stay CEd.out.1 HBd.out), (cell_stay CEd.out.2 HBd.out)⟩ (fun hHeld => ?_)
      clear hK K
      try simp only [Act.put, List.setIfInBounds_toArray, List.set_cons_zero, List.set_cons_succ]
      refine wpAnyH_ready (rs := [5]) (by kernel_rfl) (by simp) (AllReadyH.cons (by simp only [List.getElem?_toArray, List.getElem?_cons_succ, List.getElem?_cons_zero]; rfl) (fun K hK => ?_) AllReadyH.nil)
      go_simp
      refine (specEditHello_any (e := ed) (HOr.out.same HBd.out) HWe.out (by omega) (by omega) (by omega)).mono ?_
      rintro e5 w5 ⟨v5, rfl, ho5, hb5⟩
      obtain ⟨a5, n5, c5, b5, m5, d5, rfl⟩ := ho5.shape
      have HB5 : Hid (Below wr.heap.size wr w5) := Lib.hid (HBd.out.trans hb5)
      have HO5 := Lib.hid ho5
      have hs5 : wr.heap.size ≤ w5.heap.size := HB5.out.size
      clear ho5 hb5
      go_wp2_with fail
      refine hK.out _ _ ⟨(cell_stay CEd.out.1 HB5.out), (cell_stay CEd.out.2 HB5.out)⟩ (fun hHeld => ?_)
      clear hK K
      try simp only [Act.put, List.setIfInBounds_toArray, List.set_cons_zero, List.set_cons_succ]
      refine wpAnyH_ready (rs := [6]) (by kernel_rfl) (by simp) (AllReadyH.cons (by simp only [List.getElem?_toArray, List.getElem?_cons_succ, List.getElem?_cons_zero]; rfl) (fun K hK => ?_) AllReadyH.nil)
      have HG5 := Lib.hid ((HB5.out.block w2.heap.size hgl).trans HGr.out)
      obtain ⟨m0, m1q, q0, q1⟩ := two_cells HG5.out
      obtain ⟨z0, z1, hZ⟩ := two_put HG5.out (.slice a5 n5 c5) (.slice b5 m5 d5)
      have hgr := set2_grown w5 w2.heap.size (.slice a5 n5 c5) (.slice b5 m5 d5)
      have hne : eb ≠ w2.heap.size := by have := HB.out.size; omega
      go_simp
      refine hK.out _ _ ⟨(cell_off (cell_stay CEd.out.1 HB5.out) hgr (by simpa using fun q => hne q.symm)), (cell_off (cell_stay CEd.out.2 HB5.out) hgr (by simpa using fun q => hne q.symm))⟩ (fun hHeld => ?_)
      clear hK K
      try simp only [Act.put, List.setIfInBounds_toArray, List.set_cons_zero, List.set_cons_succ]
      refine wpAnyH_done (by kernel_rfl) ?_ _
      go_wp2_with fail
      have hin := one_inside hgr
      go_roundw
      case rel => exact ⟨j + 1, by omega, by go_num, a5, n5, c5, b5, m5, d5, w5.heap.size, wr.drew.heap.size, hZ, by rw [HS.out]; exact HO5.out.aside hin (Or.inl (by omega)), Or.inr (by omega), hin.to (HBr.out.trans (HB5.out.mono hsr)) (by omega) (by omega), by simp; omega⟩
      case measure => simp [intOf]; omega
    · have hall : es.take j = es := List.take_of_length_le (by omega)
      have HOr2 : Hid (OwnHel S1 wr B1 (.agg #[.slice a1 n1 c1, .slice b1 m1 d1]) (edHs x es)) := Lib.hid (hall ▸ HOr.out)
      clear hall HOr
      obtain ⟨g0, g1, -⟩ := two_cells HGr.out
      have KC := Lib.hid (specChooseAnswer_any (c := vc) (d := tc) (H12.out _ (HB.out.trans (HBr.out.mono HB.out.size))).1 (H12.out _ (HB.out.trans (HBr.out.mono HB.out.size))).2 HOr2.out.hel HZ.out hn hm)
      rw [HCh.out.1, HCh.out.2] at KC
      go_wp2_with fail
      refine KC.out.mono ?_
      rintro e3 w3 ⟨v3, rfl, ho3, hb3⟩
      obtain ⟨p3, k3, r3, rfl⟩ := ho3.shape
      have HB4 : Hid (Below W0.heap.size W0 w3) := Lib.hid (HBr.out.trans (hb3.mono HBr.out.size))
      have hs3 : wr.heap.size ≤ w3.heap.size := hb3.size
      have HAL3 := Lib.hid (alloc_same w3 (.cells #[.int .i64 an.ver, .slice p3 k3 r3] 44))
      have HGA : Hid ((w3.alloc (.cells #[.int .i64 an.ver, .slice p3 k3 r3] 44)).heap[w3.heap.size]? = some (.cells #[.int .i64 an.ver, .slice p3 k3 r3] 44 (0, 0))) := Lib.hid (heap_alloc_new w3 _)
      have hsA : w3.heap.size < (w3.alloc (.cells #[.int .i64 an.ver, .slice p3 k3 r3] 44)).heap.size := by simp
      have HBx : Hid (Below W0.heap.size W0 (w3.alloc (.cells #[.int .i64 an.ver, .slice p3 k3 r3] 44))) := Lib.hid (HB4.out.trans (HAL3.out.mono HB4.out.size))
      have HGH : Hid ((w3.alloc (.cells #[.int .i64 an.ver, .slice p3 k3 r3] 44)).heap[w2.heap.size]? = some (.cells #[.slice a1 n1 c1, .slice b1 m1 d1] 27 (0, 0))) := Lib.hid ((HAL3.out.block _ (by omega)).trans ((hb3.block _ hgl).trans HGr.out))
      have HVA := Lib.hid (ho3.ans.same HAL3.out)
      have HVH := Lib.hid ((HOr2.out.hel.same hb3).same HAL3.out)
      have KN := Lib.hid (specEditAnswer_any (e := ⟨0, 0⟩) HVA.out (by decide) (by have := (isA_few HIa.out).1; omega) (by have := (isA_few HIa.out).2; omega))
      rw [edA_nothing] at KN
      clear ho3 hb3 KC g0 g1 HAL3 HOr2 HGr
      obtain ⟨g0, g1, -⟩ := two_cells HGA.out
      go_wp2_with fail
      generalize hgen : w3.alloc (.cells #[.int .i64 an.ver, .slice p3 k3 r3] 44) = X3 at *
      clear hgen g0 g1
      refine KN.out.mono ?_
      rintro e4 w4 ⟨v4, rfl, ho4, hb4⟩
      obtain ⟨b4, m4, d4, rfl⟩ := ho4.shape
      have HBw : Hid (Below W0.heap.size W0 w4) := Lib.hid (HBx.out.trans (hb4.mono HBx.out.size))
      have HBw4 : Hid (Below w.heap.size w w4) := Lib.hid (HB.out.trans (HBw.out.mono HB.out.size))
      have hs4 : X3.heap.size ≤ w4.heap.size := hb4.size
      have HAL4 := Lib.hid (alloc_same w4 (.cells #[.int .i64 an.ver, .slice b4 m4 d4] 44))
      have HG4 : Hid ((w4.alloc (.cells #[.int .i64 an.ver, .slice b4 m4 d4] 44)).heap[w4.heap.size]? = some (.cells #[.int .i64 an.ver, .slice b4 m4 d4] 44 (0, 0))) := Lib.hid (heap_alloc_new w4 _)
      have hg4 : w4.heap.size < (w4.alloc (.cells #[.int .i64 an.ver, .slice b4 m4 d4] 44)).heap.size := by simp
      have HO4 := Lib.hid (ho4.same HAL4.out)
      have HQ4 : Hid (Below w4.heap.size w4 (w4.alloc (.cells #[.int .i64 an.ver, .slice b4 m4 d4] 44))) := HAL4
      have HGA4 := Lib.hid ((hb4.block _ hsA).trans HGA.out)
      have HGH4 := Lib.hid ((hb4.block _ (by omega)).trans HGH.out)
      have HX4 := Lib.hid ((HBw.out.block w.heap.size (by omega)).trans HX.out)
      have HR4 := Lib.hid ((HBw.out.block (w.heap.size + 1) (by omega)).trans HR.out)
      have HVA4 := Lib.hid (HVA.out.same hb4)
      have HVH4 := Lib.hid (HVH.out.same hb4)
      have hsW : W0.heap.size ≤ w4.heap.size := HBw.out.size
      clear ho4 hb4 KN HGA HGH HVA HVH HAL4 HBr HB4 HBx
      obtain ⟨vr, hvr⟩ : ∃ vr, vr = wr := ⟨wr, rfl⟩
      subst hvr
      go_wp2_with fail
      go_loopw [16] (fun i wr => ∃ j : Nat, j ≤ en ∧ i = .int .i64 j ∧ ∃ (b4 : Option Addr) (m4 d4 S B : Nat), wr.heap[w4.heap.size]? = some (.cells #[.int .i64 (edAs an (es.take j)).ver, .slice b4 m4 d4] 44 (0, 0)) ∧ OwnAns S wr B (.agg #[.int .i64 (edAs an (es.take j)).ver, .slice b4 m4 d4]) (edAs an (es.take j)) ∧ (S ≤ w4.heap.size ∨ w4.heap.size < B) ∧ Below w4.heap.size w4 wr ∧ w4.heap.size < wr.heap.size) (fun i _ => en - (intOf i).toNat)
      case atStart => exact ⟨0, Nat.zero_le _, rfl, b4, m4, d4, w4.heap.size, X3.heap.size, HG4.out, HO4.out, Or.inl (Nat.le_refl _), HQ4.out, hg4⟩
      case round =>
        obtain ⟨j, hj, rfl, b4, m4, d4, S4, B4, hbx, how, hsep, hbw, hgl⟩ := hrel
        have HGr := Lib.hid hbx
        have HOr := Lib.hid how
        have HBr := Lib.hid hbw
        have hsr : w4.heap.size ≤ wr.heap.size := hbw.size
        clear hbx how hbw
        by_cases hlt : j < en
        · obtain ⟨eb, eo, ed, rfl, hed, k0, k1⟩ := ets_at (HEs.out w (Below.refl _ _)) hlt
          have heb : eb < w.heap.size := cell_in k0
          have CEd := Lib.hid (And.intro (cell_stay k0 (HBw4.out.trans (HBr.out.mono HBw4.out.size))) (cell_stay k1 (HBw4.out.trans (HBr.out.mono HBw4.out.size))))
          have HWe := Lib.hid (HWf.out ed (List.mem_of_getElem? hed)).1
          obtain ⟨hf2, hf3⟩ := isA_few (edAs_is HIa.out (es.take j))
          have HS : Hid (edAs an (es.take (j + 1)) = edA (edAs an (es.take j)) ed) := Lib.hid (edAs_step hed)
          have HBd : Hid (Below wr.heap.size wr wr.drew) := Lib.hid (Below.refl _ _).drew
          have hd0 : wr.heap.size ≤ wr.drew.heap.size := Nat.le_refl _
          clear hed k0 k1
          go_wp2_with fail
          refine wp_region_held_drew (S := fun w9 => w9.cell? ⟨eb, eo + j * 2, none⟩ = some (.int .i64 ed.kind) ∧ w9.cell? ⟨eb, eo + j * 2 + 1, none⟩ = some (.int .i64 ed.n)) (by kernel_rfl) ⟨(cell_stay CEd.out.1 HBd.out), (cell_stay CEd.out.2 HBd.out)⟩ (fun hHeld => ?_)
          refine wpAnyH_take (i := 1) (v := ?v26) (by simp only [List.getElem?_toArray, List.getElem?_cons_succ, List.getElem?_cons_zero]; rfl) (by kernel_rfl) (by kernel_rfl) (by kernel_rfl) (by exact fun _ _ _ h => h) (Or.inl ⟨by rfl, fun w9 hS9 => ?hy26⟩) hHeld ?rest26
          case hy26 =>
            dsimp only at hS9
            obtain ⟨y0, y1⟩ := hS9
            go_simp
            try with_reducible rfl
          try simp only [Act.put, List.setIfInBounds_toArray, List.set_cons_zero, List.set_cons_succ]
          refine wpAnyH_take (i := 2) (v := ?v27) (by simp only [List.getElem?_toArray, List.getElem?_cons_succ, List.getElem?_cons_zero]; rfl) (by kernel_rfl) (by kernel_rfl) (by kernel_rfl) (by exact fun _ _ _ h => h) (Or.inl ⟨by rfl, fun w9 hS9 => ?hy27⟩) hHeld ?rest27
          case hy27 =>
            dsimp only at hS9
            obtain ⟨y0, y1⟩ := hS9
            go_simp
            try with_reducible rfl
          try simp only [Act.put, List.setIfInBounds_toArray, List.set_cons_zero, List.set_cons_succ]
          refine wpAnyH_take (i := 3) (v := ?v28) (by simp only [List.getElem?_toArray, List.getElem?_cons_succ, List.getElem?_cons_zero]; rfl) (by kernel_rfl) (by kernel_rfl) (by kernel_rfl) (by exact fun _ _ _ h => h) (Or.inl ⟨by rfl, fun w9 hS9 => ?hy28⟩) hHeld ?rest28
          case hy28 =>
            dsimp only at hS9
            obtain ⟨y0, y1⟩ := hS9
            go_simp
            try with_reducible rfl
          try simp only [Act.put, List.setIfInBounds_toArray, List.set_cons_zero, List.set_cons_succ]
          refine wpAnyH_take (i := 4) (v := ?v29) (by simp only [List.getElem?_toArray, List.getElem?_cons_succ, List.getElem?_cons_zero]; rfl) (by kernel_rfl) (by kernel_rfl) (by kernel_rfl) (by exact fun _ _ _ h => h) (Or.inl ⟨by rfl, fun w9 hS9 => ?hy29⟩) hHeld ?rest29
          case hy29 =>
            dsimp only at hS9
            obtain ⟨y0, y1⟩ := hS9
            go_simp
            try with_reducible rfl
          try simp only [Act.put, List.setIfInBounds_toArray, List.set_cons_zero, List.set_cons_succ]
          refine wpAnyH_ready (rs := [0]) (by kernel_rfl) (by simp) (AllReadyH.cons (by simp only [List.getElem?_toArray, List.getElem?_cons_succ, List.getElem?_cons_zero]; rfl) (fun K hK => ?_) AllReadyH.nil)
          obtain ⟨l0, l1, -⟩ := two_cells ((HBd.out.block w4.heap.size hgl).trans HGr.out)
          go_simp
          clear l0 l1
          refine hK.out _ _ ⟨(cell_stay CEd.out.1 HBd.out), (cell_stay CEd.out.2 HBd.out)⟩ (fun hHeld => ?_)
          clear hK K
          try simp only [Act.put, List.setIfInBounds_toArray, List.set_cons_zero, List.set_cons_succ]
          refine wpAnyH_ready (rs := [5]) (by kernel_rfl) (by simp) (AllReadyH.cons (by simp only [List.getElem?_toArray, List.getElem?_cons_succ, List.getElem?_cons_zero]; rfl) (fun K hK => ?_) AllReadyH.nil)
          go_simp
          refine (specEditAnswer_any (e := ed) (HOr.out.ans.same HBd.out) HWe.out (by omega) (by omega)).mono ?_
          rintro e5 w5 ⟨v5, rfl, ho5, hb5⟩
          obtain ⟨b5, m5, d5, rfl⟩ := ho5.shape
          have HB5 : Hid (Below wr.heap.size wr w5) := Lib.hid (HBd.out.trans hb5)
          have HO5 := Lib.hid ho5
          have hs5 : wr.heap.size ≤ w5.heap.size := HB5.out.size
          clear ho5 hb5
          go_wp2_with fail
          refine hK.out _ _ ⟨(cell_stay CEd.out.1 HB5.out), (cell_stay CEd.out.2 HB5.out)⟩ (fun hHeld => ?_)
          clear hK K
          try simp only [Act.put, List.setIfInBounds_toArray, List.set_cons_zero, List.set_cons_succ]
          refine wpAnyH_ready (rs := [6]) (by kernel_rfl) (by simp) (AllReadyH.cons (by simp only [List.getElem?_toArray, List.getElem?_cons_succ, List.getElem?_cons_zero]; rfl) (fun K hK => ?_) AllReadyH.nil)
          have HG5 := Lib.hid ((HB5.out.block w4.heap.size hgl).trans HGr.out)
          obtain ⟨m0, m1q, q0, q1⟩ := two_cells HG5.out
          obtain ⟨z0, z1, hZ⟩ := two_put HG5.out (.int .i64 (edA (edAs an (es.take j)) ed).ver) (.slice b5 m5 d5)
          have hgr := set2_grown w5 w4.heap.size (.int .i64 (edA (edAs an (es.take j)) ed).ver) (.slice b5 m5 d5)
          have hne : eb ≠ w4.heap.size := by have := HB.out.size; have := HBw4.out.size; omega
          go_simp
          refine hK.out _ _ ⟨(cell_off (cell_stay CEd.out.1 HB5.out) hgr (by simpa using fun q => hne q.symm)), (cell_off (cell_stay CEd.out.2 HB5.out) hgr (by simpa using fun q => hne q.symm))⟩ (fun hHeld => ?_)
          clear hK K
          try simp only [Act.put, List.setIfInBounds_toArray, List.set_cons_zero, List.set_cons_succ]
          refine wpAnyH_done (by kernel_rfl) ?_ _
          go_wp2_with fail
          have hin := one_inside hgr
          have HZ2 : Hid (((w5.setCell ⟨w4.heap.size, 0, none⟩ (.int .i64 (edA (edAs an (es.take j)) ed).ver)).setCell ⟨w4.heap.size, 1, none⟩ (.slice b5 m5 d5)).heap[w4.heap.size]? = some (.cells #[.int .i64 (edAs an (es.take (j + 1))).ver, .slice b5 m5 d5] 44 (0, 0))) := Lib.hid (by rw [HS.out]; exact hZ)
          have HO6 : Hid (OwnAns w5.heap.size ((w5.setCell ⟨w4.heap.size, 0, none⟩ (.int .i64 (edA (edAs an (es.take j)) ed).ver)).setCell ⟨w4.heap.size, 1, none⟩ (.slice b5 m5 d5)) wr.drew.heap.size (.agg #[.int .i64 (edAs an (es.take (j + 1))).ver, .slice b5 m5 d5]) (edAs an (es.take (j + 1)))) := Lib.hid (by rw [HS.out]; exact HO5.out.aside hin (Or.inl (by omega)))
          go_roundw
          case rel => exact ⟨j + 1, by omega, by go_num, b5, m5, d5, w5.heap.size, wr.drew.heap.size, HZ2.out, HO6.out, Or.inr (by omega), hin.to (HBr.out.trans (HB5.out.mono hsr)) (by omega) (by omega), by simp; omega⟩
          case measure => simp [intOf]; omega
        · have hall : es.take j = es := List.take_of_length_le (by omega)
          have HGr2 : Hid (wr.heap[w4.heap.size]? = some (.cells #[.int .i64 (edAs an es).ver, .slice b4 m4 d4] 44 (0, 0))) := Lib.hid (hall ▸ HGr.out)
          have HOr2 : Hid (OwnAns S4 wr B4 (.agg #[.int .i64 (edAs an es).ver, .slice b4 m4 d4]) (edAs an es)) := Lib.hid (hall ▸ HOr.out)
          clear hall HOr HGr
          have HX5 := Lib.hid ((HBr.out.block w.heap.size (by omega)).trans HX4.out)
          have HR5 := Lib.hid ((HBr.out.block (w.heap.size + 1) (by omega)).trans HR4.out)
          have HGA5 := Lib.hid ((HBr.out.block w3.heap.size (by omega)).trans HGA4.out)
          have HGH5 := Lib.hid ((HBr.out.block w2.heap.size (by omega)).trans HGH4.out)
          have HVA5 := Lib.hid (HVA4.out.same HBr.out)
          have HVH5 := Lib.hid (HVH4.out.same HBr.out)
          have HVb := Lib.hid HOr2.out.ans
          have HVx := Lib.hid (H.out _ (HBw4.out.trans (HBr.out.mono HBw4.out.size)))
          have HIb := Lib.hid (edAs_is HIa.out es)
          have HB9 : Hid (Below W0.heap.size W0 wr) := Lib.hid (HBw.out.trans (HBr.out.mono HBw.out.size))
          have CXw := Lib.hid (two_cells HX5.out)
          have CBw := Lib.hid (two_cells HGr2.out)
          clear HX4 HR4 HGA4 HGH4 HVA4 HVH4 HOr2
          obtain ⟨M, hM⟩ : ∃ M, finP key [helB x, ansB (edAs an es)] 1 = M := ⟨_, rfl⟩
          obtain ⟨N, hN⟩ : ∃ N, finP key [helB (edHs x es), ansB an] 1 = N := ⟨_, rfl⟩
          have HD0 : Hid (∀ o, fitsA x (edAs an es) = o → o = false → dealP key x (edHs x es) an (edAs an es) = noD) := Lib.hid (fun o h1 h2 => if_neg (fun q => by rw [h1, h2] at q; cases q.1))
          have HD1 : Hid (¬ M = N → dealP key x (edHs x es) an (edAs an es) = noD) := Lib.hid (fun h1 => if_neg (fun q => by
            have h2 := q.2
            unfold chkP at h2
            rw [hM, hN] at h2
            simp at h2
            exact h1 h2.2))
          have HD2 : Hid (M = N → M = 0 → dealP key x (edHs x es) an (edAs an es) = noD) := Lib.hid (fun h0 h1 => if_neg (fun q => by
            have h2 := q.2
            unfold chkP at h2
            rw [hM, hN] at h2
            simp at h2
            exact h2.1 (h0 ▸ h1)))
          have HD3 : Hid (fitsA x (edAs an es) = true → M = N → ¬ M = 0 → dealP key x (edHs x es) an (edAs an es) = ⟨true, (edAs an es).ver, tagsX (edAs an es).exts⟩) := Lib.hid (fun h1 h2 h3 => if_pos ⟨h1, by
            unfold chkP
            rw [hM, hN, ← h2]
            simpa using h3⟩)
          go_wp2_with fail
          have HBdp : Hid (Below wr.heap.size wr wr.drew) := Lib.hid (Below.refl _ _).drew
          refine wp_region_held_drew (S := fun w9 => (w9.cell? ⟨w.heap.size, 0, none⟩ = some (.slice a n c) ∧ w9.cell? ⟨w.heap.size, 1, none⟩ = some (.slice b m d)) ∧ w9.cell? ⟨w4.heap.size, 0, none⟩ = some (.int .i64 (edAs an es).ver) ∧ w9.cell? ⟨w4.heap.size, 1, none⟩ = some (.slice b4 m4 d4)) (by kernel_rfl) ⟨⟨cell_stay CXw.out.1 HBdp.out, cell_stay CXw.out.2.1 HBdp.out⟩, cell_stay CBw.out.1 HBdp.out, cell_stay CBw.out.2.1 HBdp.out⟩ (fun hHeld => ?_)
          refine wpAnyH_take (i := 0) (v := ?v30) (by simp only [List.getElem?_toArray, List.getElem?_cons_succ, List.getElem?_cons_zero]; rfl) (by kernel_rfl) (by kernel_rfl) (by kernel_rfl) (by exact fun _ _ _ h => h) (Or.inl ⟨by rfl, fun w9 hS9 => ?hy30⟩) hHeld ?rest30
          case hy30 =>
            dsimp only at hS9
            obtain ⟨⟨y0, y1⟩, y2, y3⟩ := hS9
            go_simp
            try with_reducible rfl
          try simp only [Act.put, List.setIfInBounds_toArray, List.set_cons_zero, List.set_cons_succ]
          refine wpAnyH_take (i := 1) (v := ?v31) (by simp only [List.getElem?_toArray, List.getElem?_cons_succ, List.getElem?_cons_zero]; rfl) (by kernel_rfl) (by kernel_rfl) (by kernel_rfl) (by exact fun _ _ _ h => h) (Or.inl ⟨by rfl, fun w9 hS9 => ?hy31⟩) hHeld ?rest31
          case hy31 =>
            dsimp only at hS9
            obtain ⟨⟨y0, y1⟩, y2, y3⟩ := hS9
            go_simp
            try with_reducible rfl
          try simp only [Act.put, List.setIfInBounds_toArray, List.set_cons_zero, List.set_cons_succ]
          refine wpAnyH_take (i := 3) (v := ?v32) (by simp only [List.getElem?_toArray, List.getElem?_cons_succ, List.getElem?_cons_zero]; rfl) (by kernel_rfl) (by kernel_rfl) (by kernel_rfl) (by exact fun _ _ _ h => h) (Or.inl ⟨by rfl, fun w9 hS9 => ?hy32⟩) hHeld ?rest32
          case hy32 =>
            dsimp only at hS9
            obtain ⟨⟨y0, y1⟩, y2, y3⟩ := hS9
            go_simp
            try with_reducible rfl
          try simp only [Act.put, List.setIfInBounds_toArray, List.set_cons_zero, List.set_cons_succ]
          refine wpAnyH_ready (rs := [2]) (by kernel_rfl) (by simp) (AllReadyH.cons (by simp only [List.getElem?_toArray, List.getElem?_cons_succ, List.getElem?_cons_zero]; rfl) (fun K hK => ?_) AllReadyH.nil)
          go_simp
          refine (specHelloBytes_any (HVx.out.same HBdp.out)).mono ?_
          rintro ep2 wp2 ⟨qp2, kp2, rp2, rfl, ho2, hb⟩
          have HBp2 : Hid (Below wr.heap.size wr wp2) := Lib.hid (HBdp.out.trans hb)
          have HOp2 := Lib.hid (And.intro ho2.nums ho2.room)
          obtain rfl : kp2 = (helB x).length := ho2.len.symm
          clear ho2 hb
          go_wp2_with fail
          refine hK.out _ _ ⟨⟨cell_stay CXw.out.1 HBp2.out, cell_stay CXw.out.2.1 HBp2.out⟩, cell_stay CBw.out.1 HBp2.out, cell_stay CBw.out.2.1 HBp2.out⟩ (fun hHeld => ?_)
          clear hK K
          try simp only [Act.put, List.setIfInBounds_toArray, List.set_cons_zero, List.set_cons_succ]
          refine wpAnyH_ready (rs := [4]) (by kernel_rfl) (by simp) (AllReadyH.cons (by simp only [List.getElem?_toArray, List.getElem?_cons_succ, List.getElem?_cons_zero]; rfl) (fun K hK => ?_) AllReadyH.nil)
          go_simp
          refine (specAnswerBytes_any (HVb.out.same HBp2.out)).mono ?_
          rintro ep5 wp5 ⟨qp5, kp5, rp5, rfl, ho5, hb⟩
          have HBp5 : Hid (Below wr.heap.size wr wp5) := Lib.hid (HBp2.out.trans (hb.mono HBp2.out.size))
          have HRp := Lib.hid (rws_two (HOp2.out.1.same hb) ho5.nums HOp2.out.2 ho5.room)
          have HALp := Lib.hid (alloc_same wp5 (.cells #[.slice qp2 (helB x).length rp2, .slice qp5 kp5 rp5] 24))
          have HBp6 : Hid (Below wr.heap.size wr (wp5.alloc (.cells #[.slice qp2 (helB x).length rp2, .slice qp5 kp5 rp5] 24))) := Lib.hid (HBp5.out.trans (HALp.out.mono HBp5.out.size))
          clear ho5 hb
          go_wp2_with fail
          refine hK.out _ _ ⟨⟨cell_stay CXw.out.1 HBp5.out, cell_stay CXw.out.2.1 HBp5.out⟩, cell_stay CBw.out.1 HBp5.out, cell_stay CBw.out.2.1 HBp5.out⟩ (fun hHeld => ?_)
          clear hK K
          try simp only [Act.put, List.setIfInBounds_toArray, List.set_cons_zero, List.set_cons_succ]
          refine wpAnyH_ready (rs := [5]) (by kernel_rfl) (by simp) (AllReadyH.cons (by simp only [List.getElem?_toArray, List.getElem?_cons_succ, List.getElem?_cons_zero]; rfl) (fun K hK => ?_) AllReadyH.nil)
          go_simp
          refine hK.out _ _ ⟨⟨cell_stay CXw.out.1 HBp6.out, cell_stay CXw.out.2.1 HBp6.out⟩, cell_stay CBw.out.1 HBp6.out, cell_stay CBw.out.2.1 HBp6.out⟩ (fun hHeld => ?_)
          clear hK K
          try simp only [Act.put, List.setIfInBounds_toArray, List.set_cons_zero, List.set_cons_succ]
          refine wpAnyH_ready (rs := [6]) (by kernel_rfl) (by simp) (AllReadyH.cons (by simp only [List.getElem?_toArray, List.getElem?_cons_succ, List.getElem?_cons_zero]; rfl) (fun K hK => ?_) AllReadyH.nil)
          go_simp
          refine (spec_finishOf_any key 1 (c := 2) HRp.out (len_pair _ _)).mono ?_
          rintro ep7 wp7 ⟨rfl, hb⟩
          have HBp7 : Hid (Below wr.heap.size wr wp7) := Lib.hid (HBp6.out.trans (hb.mono HBp6.out.size))
          clear hb
          go_wp2_with fail
          refine hK.out _ _ ⟨⟨cell_stay CXw.out.1 HBp7.out, cell_stay CXw.out.2.1 HBp7.out⟩, cell_stay CBw.out.1 HBp7.out, cell_stay CBw.out.2.1 HBp7.out⟩ (fun hHeld => ?_)
          clear hK K
          try simp only [Act.put, List.setIfInBounds_toArray, List.set_cons_zero, List.set_cons_succ]
          refine wpAnyH_take (i := 7) (v := ?v33) (by simp only [List.getElem?_toArray, List.getElem?_cons_succ, List.getElem?_cons_zero]; rfl) (by kernel_rfl) (by kernel_rfl) (by kernel_rfl) (by exact fun _ _ _ h => h) (Or.inl ⟨by rfl, fun w9 hS9 => ?hy33⟩) hHeld ?rest33
          case hy33 =>
            dsimp only at hS9
            obtain ⟨⟨y0, y1⟩, y2, y3⟩ := hS9
            go_simp
            try with_reducible rfl
          try simp only [Act.put, List.setIfInBounds_toArray, List.set_cons_zero, List.set_cons_succ]
          refine wpAnyH_done (by kernel_rfl) ?_ _
          (try rw [hM])
          go_wp2_with fail
          obtain ⟨w6, hw6⟩ : ∃ w6, w6 = wp7 := ⟨wp7, rfl⟩
          subst hw6
          have HX6 := Lib.hid ((HBp7.out.block w.heap.size (by omega)).trans HX5.out)
          have HR6 := Lib.hid ((HBp7.out.block (w.heap.size + 1) (by omega)).trans HR5.out)
          have HG6 := Lib.hid ((HBp7.out.block w4.heap.size hgl).trans HGr2.out)
          have HGA6 := Lib.hid ((HBp7.out.block w3.heap.size (by omega)).trans HGA5.out)
          have HGH6 := Lib.hid ((HBp7.out.block w2.heap.size (by omega)).trans HGH5.out)
          have HVA6 := Lib.hid (HVA5.out.same HBp7.out)
          have HVH6 := Lib.hid (HVH5.out.same HBp7.out)
          have HVb6 := Lib.hid (HVb.out.same HBp7.out)
          have HVx6 := Lib.hid (HVx.out.same HBp7.out)
          have HB10 : Hid (Below W0.heap.size W0 w6) := Lib.hid (HB9.out.trans (HBp7.out.mono HB9.out.size))
          have hs6 : wr.heap.size ≤ w6.heap.size := HBp7.out.size
          have CGA := Lib.hid (two_cells HGA6.out)
          have CGH := Lib.hid (two_cells HGH6.out)
          clear HX5 HR5 HGA5 HGH5 HVA5 HVH5 HVb HVx HGr2 CXw CBw HBdp HBp2 HBp5 HBp6 HOp2 HRp HALp
          have HBds : Hid (Below w6.heap.size w6 w6.drew) := Lib.hid (Below.refl _ _).drew
          refine wp_region_held_drew (S := fun w9 => (w9.cell? ⟨w2.heap.size, 0, none⟩ = some (.slice a1 n1 c1) ∧ w9.cell? ⟨w2.heap.size, 1, none⟩ = some (.slice b1 m1 d1)) ∧ w9.cell? ⟨w3.heap.size, 0, none⟩ = some (.int .i64 an.ver) ∧ w9.cell? ⟨w3.heap.size, 1, none⟩ = some (.slice p3 k3 r3)) (by kernel_rfl) ⟨⟨cell_stay CGH.out.1 HBds.out, cell_stay CGH.out.2.1 HBds.out⟩, cell_stay CGA.out.1 HBds.out, cell_stay CGA.out.2.1 HBds.out⟩ (fun hHeld => ?_)
          refine wpAnyH_take (i := 0) (v := ?v34) (by simp only [List.getElem?_toArray, List.getElem?_cons_succ, List.getElem?_cons_zero]; rfl) (by kernel_rfl) (by kernel_rfl) (by kernel_rfl) (by exact fun _ _ _ h => h) (Or.inl ⟨by rfl, fun w9 hS9 => ?hy34⟩) hHeld ?rest34
          case hy34 =>
            dsimp only at hS9
            obtain ⟨⟨y0, y1⟩, y2, y3⟩ := hS9
            go_simp
            try with_reducible rfl
          try simp only [Act.put, List.setIfInBounds_toArray, List.set_cons_zero, List.set_cons_succ]
          refine wpAnyH_take (i := 1) (v := ?v35) (by simp only [List.getElem?_toArray, List.getElem?_cons_succ, List.getElem?_cons_zero]; rfl) (by kernel_rfl) (by kernel_rfl) (by kernel_rfl) (by exact fun _ _ _ h => h) (Or.inl ⟨by rfl, fun w9 hS9 => ?hy35⟩) hHeld ?rest35
          case hy35 =>
            dsimp only at hS9
            obtain ⟨⟨y0, y1⟩, y2, y3⟩ := hS9
            go_simp
            try with_reducible rfl
          try simp only [Act.put, List.setIfInBounds_toArray, List.set_cons_zero, List.set_cons_succ]
          refine wpAnyH_take (i := 3) (v := ?v36) (by simp only [List.getElem?_toArray, List.getElem?_cons_succ, List.getElem?_cons_zero]; rfl) (by kernel_rfl) (by kernel_rfl) (by kernel_rfl) (by exact fun _ _ _ h => h) (Or.inl ⟨by rfl, fun w9 hS9 => ?hy36⟩) hHeld ?rest36
          case hy36 =>
            dsimp only at hS9
            obtain ⟨⟨y0, y1⟩, y2, y3⟩ := hS9
            go_simp
            try with_reducible rfl
          try simp only [Act.put, List.setIfInBounds_toArray, List.set_cons_zero, List.set_cons_succ]
          refine wpAnyH_ready (rs := [2]) (by kernel_rfl) (by simp) (AllReadyH.cons (by simp only [List.getElem?_toArray, List.getElem?_cons_succ, List.getElem?_cons_zero]; rfl) (fun K hK => ?_) AllReadyH.nil)
          go_simp
          refine (specHelloBytes_any (HVH6.out.same HBds.out)).mono ?_
          rintro es2 ws2 ⟨qs2, ks2, rs2, rfl, ho2, hb⟩
          have HBs2 : Hid (Below w6.heap.size w6 ws2) := Lib.hid (HBds.out.trans hb)
          have HOs2 := Lib.hid (And.intro ho2.nums ho2.room)
          obtain rfl : ks2 = (helB (edHs x es)).length := ho2.len.symm
          clear ho2 hb
          go_wp2_with fail
          refine hK.out _ _ ⟨⟨cell_stay CGH.out.1 HBs2.out, cell_stay CGH.out.2.1 HBs2.out⟩, cell_stay CGA.out.1 HBs2.out, cell_stay CGA.out.2.1 HBs2.out⟩ (fun hHeld => ?_)
          clear hK K
          try simp only [Act.put, List.setIfInBounds_toArray, List.set_cons_zero, List.set_cons_succ]
          refine wpAnyH_ready (rs := [4]) (by kernel_rfl) (by simp) (AllReadyH.cons (by simp only [List.getElem?_toArray, List.getElem?_cons_succ, List.getElem?_cons_zero]; rfl) (fun K hK => ?_) AllReadyH.nil)
          go_simp
          refine (specAnswerBytes_any (HVA6.out.same HBs2.out)).mono ?_
          rintro es5 ws5 ⟨qs5, ks5, rs5, rfl, ho5, hb⟩
          have HBs5 : Hid (Below w6.heap.size w6 ws5) := Lib.hid (HBs2.out.trans (hb.mono HBs2.out.size))
          have HRs := Lib.hid (rws_two (HOs2.out.1.same hb) ho5.nums HOs2.out.2 ho5.room)
          have HALs := Lib.hid (alloc_same ws5 (.cells #[.slice qs2 (helB (edHs x es)).length rs2, .slice qs5 ks5 rs5] 24))
          have HBs6 : Hid (Below w6.heap.size w6 (ws5.alloc (.cells #[.slice qs2 (helB (edHs x es)).length rs2, .slice qs5 ks5 rs5] 24))) := Lib.hid (HBs5.out.trans (HALs.out.mono HBs5.out.size))
          clear ho5 hb
          go_wp2_with fail
          refine hK.out _ _ ⟨⟨cell_stay CGH.out.1 HBs5.out, cell_stay CGH.out.2.1 HBs5.out⟩, cell_stay CGA.out.1 HBs5.out, cell_stay CGA.out.2.1 HBs5.out⟩ (fun hHeld => ?_)
          clear hK K
          try simp only [Act.put, List.setIfInBounds_toArray, List.set_cons_zero, List.set_cons_succ]
          refine wpAnyH_ready (rs := [5]) (by kernel_rfl) (by simp) (AllReadyH.cons (by simp only [List.getElem?_toArray, List.getElem?_cons_succ, List.getElem?_cons_zero]; rfl) (fun K hK => ?_) AllReadyH.nil)
          go_simp
          refine hK.out _ _ ⟨⟨cell_stay CGH.out.1 HBs6.out, cell_stay CGH.out.2.1 HBs6.out⟩, cell_stay CGA.out.1 HBs6.out, cell_stay CGA.out.2.1 HBs6.out⟩ (fun hHeld => ?_)
          clear hK K
          try simp only [Act.put, List.setIfInBounds_toArray, List.set_cons_zero, List.set_cons_succ]
          refine wpAnyH_ready (rs := [6]) (by kernel_rfl) (by simp) (AllReadyH.cons (by simp only [List.getElem?_toArray, List.getElem?_cons_succ, List.getElem?_cons_zero]; rfl) (fun K hK => ?_) AllReadyH.nil)
          go_simp
          refine (spec_finishOf_any key 1 (c := 2) HRs.out (len_pair _ _)).mono ?_
          rintro es7 ws7 ⟨rfl, hb⟩
          have HBs7 : Hid (Below w6.heap.size w6 ws7) := Lib.hid (HBs6.out.trans (hb.mono HBs6.out.size))
          clear hb
          go_wp2_with fail
          refine hK.out _ _ ⟨⟨cell_stay CGH.out.1 HBs7.out, cell_stay CGH.out.2.1 HBs7.out⟩, cell_stay CGA.out.1 HBs7.out, cell_stay CGA.out.2.1 HBs7.out⟩ (fun hHeld => ?_)
          clear hK K
          try simp only [Act.put, List.setIfInBounds_toArray, List.set_cons_zero, List.set_cons_succ]
          refine wpAnyH_take (i := 7) (v := ?v37) (by simp only [List.getElem?_toArray, List.getElem?_cons_succ, List.getElem?_cons_zero]; rfl) (by kernel_rfl) (by kernel_rfl) (by kernel_rfl) (by exact fun _ _ _ h => h) (Or.inl ⟨by rfl, fun w9 hS9 => ?hy37⟩) hHeld ?rest37
          case hy37 =>
            dsimp only at hS9
            obtain ⟨⟨y0, y1⟩, y2, y3⟩ := hS9
            go_simp
            try with_reducible rfl
          try simp only [Act.put, List.setIfInBounds_toArray, List.set_cons_zero, List.set_cons_succ]
          refine wpAnyH_done (by kernel_rfl) ?_ _
          (try rw [hN])
          obtain ⟨w7, hw7⟩ : ∃ w7, w7 = ws7 := ⟨ws7, rfl⟩
          subst hw7
          have HX7 := Lib.hid ((HBs7.out.block w.heap.size (by omega)).trans HX6.out)
          have HG7 := Lib.hid ((HBs7.out.block w4.heap.size (by omega)).trans HG6.out)
          have HVb7 := Lib.hid (HVb6.out.same HBs7.out)
          have HB11 : Hid (Below W0.heap.size W0 w7) := Lib.hid (HB10.out.trans (HBs7.out.mono HB10.out.size))
          have hs7 : w6.heap.size ≤ w7.heap.size := HBs7.out.size
          have KF := Lib.hid (specFitsHello_any (HVx6.out.same HBs7.out) HVb7.out (by have := (isA_few HIb.out).1; omega))
          clear HX6 HR6 HG6 HGA6 HGH6 HVA6 HVH6 HVb6 HVx6 CGA CGH HBds HBs2 HBs5 HBs6 HOs2 HRs HALs hM hN
          obtain ⟨x0, x1, -⟩ := two_cells HX7.out
          obtain ⟨g0, g1, -⟩ := two_cells HG7.out
          cases hfit : fitsA x (edAs an es) with
          | false =>
            rw [hfit] at KF
            have HE := Lib.hid (HD0.out _ hfit rfl)
            clear hfit
            go_wp2_with fail
            refine KF.out.mono ?_
            rintro e8 w8 ⟨rfl, hb8⟩
            have HB12 : Hid (Below W0.heap.size W0 w8) := Lib.hid (HB11.out.trans (hb8.mono HB11.out.size))
            have HR8 := Lib.hid ((HB12.out.block (w.heap.size + 1) (by omega)).trans HR.out)
            clear hb8 KF x0 x1 g0 g1
            obtain ⟨m0, m1, m2, q0, q1, q2⟩ := deal_cells HR8.out
            obtain ⟨z0, z1, z2, -⟩ := deal_put HR8.out (.bool false) (.int .i64 0) (.slice none 0 0)
            have hin := deal_inside w8 (w.heap.size + 1) (.bool false) (.int .i64 0) (.slice none 0 0)
            go_wp2_with fail
            (try simp only [Exit.inBlock, Exit.then])
            refine bodyPost_ret (by simp [results, Tryz.results23, go_sem, z0, z1, z2]; try rfl) rfl ?_
            rw [HE.out]
            exact ⟨_, rfl, no_dl (by have := HB12.out.size; simp only [World.size_setCell]; omega), hin.to (HB.out.trans (HB12.out.mono HB.out.size)) (by omega) (by have := HB12.out.size; omega)⟩
          | true =>
            rw [hfit] at KF
            have HFT := Lib.hid hfit
            clear hfit
            by_cases hMN : M = N
            · have hmn : (M != N) = false := by simpa using hMN
              by_cases hM0 : M = 0
              · have hm0 : (M == 0) = true := by simpa using hM0
                have HE := Lib.hid (HD2.out hMN hM0)
                clear hMN hM0
                go_wp2_with fail
                refine KF.out.mono ?_
                rintro e8 w8 ⟨rfl, hb8⟩
                have HB12 : Hid (Below W0.heap.size W0 w8) := Lib.hid (HB11.out.trans (hb8.mono HB11.out.size))
                have HR8 := Lib.hid ((HB12.out.block (w.heap.size + 1) (by omega)).trans HR.out)
                clear hb8 KF x0 x1 g0 g1
                obtain ⟨m0, m1, m2, q0, q1, q2⟩ := deal_cells HR8.out
                obtain ⟨z0, z1, z2, -⟩ := deal_put HR8.out (.bool false) (.int .i64 0) (.slice none 0 0)
                have hin := deal_inside w8 (w.heap.size + 1) (.bool false) (.int .i64 0) (.slice none 0 0)
                go_wp2_with fail
                (try simp only [Exit.inBlock, Exit.then])
                refine bodyPost_ret (by simp [results, Tryz.results23, go_sem, z0, z1, z2]; try rfl) rfl ?_
                rw [HE.out]
                exact ⟨_, rfl, no_dl (by have := HB12.out.size; simp only [World.size_setCell]; omega), hin.to (HB.out.trans (HB12.out.mono HB.out.size)) (by omega) (by have := HB12.out.size; omega)⟩
              · have hm0 : (M == 0) = false := by simpa using hM0
                have HE := Lib.hid (HD3.out HFT.out hMN hM0)
                clear hMN hM0
                go_wp2_with fail
                refine KF.out.mono ?_
                rintro e8 w8 ⟨rfl, hb8⟩
                have HB12 : Hid (Below W0.heap.size W0 w8) := Lib.hid (HB11.out.trans (hb8.mono HB11.out.size))
                have hs8 : w7.heap.size ≤ w8.heap.size := hb8.size
                have HG8 := Lib.hid ((hb8.block w4.heap.size (by omega)).trans HG7.out)
                have HVb8 := Lib.hid (HVb7.out.same hb8)
                have CG := Lib.hid (two_cells HG8.out)
                have HFw := Lib.hid (isA_few HIb.out)
                clear hb8 KF x0 x1 g0 g1 HVb7
                obtain ⟨b9, m9, d9, heq, hvv, hrr⟩ := HVb8.out
                obtain ⟨rfl, rfl, rfl⟩ : b4 = b9 ∧ m4 = m9 ∧ d4 = d9 := by simpa using heq
                have HVV := Lib.hid hvv
                have hkl := hvv.len
                clear heq hvv hrr
                go_wp2_with fail
                have HBd : Hid (Below w8.heap.size w8 w8.drew) := Lib.hid (Below.refl _ _).drew
                refine wp_region_held_drew (S := fun w9 => w9.cell? ⟨w4.heap.size, 0, none⟩ = some (.int .i64 (edAs an es).ver) ∧ w9.cell? ⟨w4.heap.size, 1, none⟩ = some (.slice b4 m4 d4)) (by kernel_rfl) ⟨(cell_stay CG.out.1 HBd.out), (cell_stay CG.out.2.1 HBd.out)⟩ (fun hHeld => ?_)
                refine wpAnyH_take (i := 0) (v := ?v38) (by simp only [List.getElem?_toArray, List.getElem?_cons_succ, List.getElem?_cons_zero]; rfl) (by kernel_rfl) (by kernel_rfl) (by kernel_rfl) (by exact fun _ _ _ h => h) (Or.inl ⟨by rfl, fun w9 hS9 => ?hy38⟩) hHeld ?rest38
                case hy38 =>
                  dsimp only at hS9
                  obtain ⟨y0, y1⟩ := hS9
                  go_simp
                  try with_reducible rfl
                try simp only [Act.put, List.setIfInBounds_toArray, List.set_cons_zero, List.set_cons_succ]
                refine wpAnyH_take (i := 1) (v := ?v39) (by simp only [List.getElem?_toArray, List.getElem?_cons_succ, List.getElem?_cons_zero]; rfl) (by kernel_rfl) (by kernel_rfl) (by kernel_rfl) (by exact fun _ _ _ h => h) (Or.inl ⟨by rfl, fun w9 hS9 => ?hy39⟩) hHeld ?rest39
                case hy39 =>
                  dsimp only at hS9
                  obtain ⟨y0, y1⟩ := hS9
                  go_simp
                  try with_reducible rfl
                try simp only [Act.put, List.setIfInBounds_toArray, List.set_cons_zero, List.set_cons_succ]
                refine wpAnyH_take (i := 2) (v := ?v40) (by simp only [List.getElem?_toArray, List.getElem?_cons_succ, List.getElem?_cons_zero]; rfl) (by kernel_rfl) (by kernel_rfl) (by kernel_rfl) (by exact fun _ _ _ h => h) (Or.inl ⟨by rfl, fun w9 hS9 => ?hy40⟩) hHeld ?rest40
                case hy40 =>
                  dsimp only at hS9
                  obtain ⟨y0, y1⟩ := hS9
                  go_simp
                  try with_reducible rfl
                try simp only [Act.put, List.setIfInBounds_toArray, List.set_cons_zero, List.set_cons_succ]
                refine wpAnyH_take (i := 3) (v := ?v41) (by simp only [List.getElem?_toArray, List.getElem?_cons_succ, List.getElem?_cons_zero]; rfl) (by kernel_rfl) (by kernel_rfl) (by kernel_rfl) (by exact fun _ _ _ h => h) (Or.inl ⟨by rfl, fun w9 hS9 => ?hy41⟩) hHeld ?rest41
                case hy41 =>
                  dsimp only at hS9
                  obtain ⟨y0, y1⟩ := hS9
                  go_simp
                  try with_reducible rfl
                try simp only [Act.put, List.setIfInBounds_toArray, List.set_cons_zero, List.set_cons_succ]
                refine wpAnyH_ready (rs := [4]) (by kernel_rfl) (by simp) (AllReadyH.cons (by simp only [List.getElem?_toArray, List.getElem?_cons_succ, List.getElem?_cons_zero]; rfl) (fun K hK => ?_) AllReadyH.nil)
                go_simp
                refine (specTagsOf_any (c := d4) (HVV.out.same HBd.out) (by have := HFw.out.1; omega)).mono ?_
                rintro e9 w9 ⟨q9, k9, r9, rfl, ho9, hb⟩
                have HB13 : Hid (Below w8.heap.size w8 w9) := Lib.hid (HBd.out.trans hb)
                have HB14 : Hid (Below W0.heap.size W0 w9) := Lib.hid (HB12.out.trans (HB13.out.mono HB12.out.size))
                have HR9 := Lib.hid ((HB14.out.block (w.heap.size + 1) (by omega)).trans HR.out)
                have HO9 := Lib.hid ho9
                have HS9 : Hid (Span q9 w8.heap.size w9.heap.size) := Lib.hid ho9.span
                clear ho9 hb
                go_wp2_with fail
                refine hK.out _ _ ⟨(cell_stay CG.out.1 HB13.out), (cell_stay CG.out.2.1 HB13.out)⟩ (fun hHeld => ?_)
                clear hK K
                try simp only [Act.put, List.setIfInBounds_toArray, List.set_cons_zero, List.set_cons_succ]
                refine wpAnyH_take (i := 5) (v := ?v42) (by simp only [List.getElem?_toArray, List.getElem?_cons_succ, List.getElem?_cons_zero]; rfl) (by kernel_rfl) (by kernel_rfl) (by kernel_rfl) (by exact fun _ _ _ h => h) (Or.inl ⟨by rfl, fun w9 hS9 => ?hy42⟩) hHeld ?rest42
                case hy42 =>
                  dsimp only at hS9
                  obtain ⟨y0, y1⟩ := hS9
                  go_simp
                  try with_reducible rfl
                try simp only [Act.put, List.setIfInBounds_toArray, List.set_cons_zero, List.set_cons_succ]
                refine wpAnyH_ready (rs := [6]) (by kernel_rfl) (by simp) (AllReadyH.cons (by simp only [List.getElem?_toArray, List.getElem?_cons_succ, List.getElem?_cons_zero]; rfl) (fun K hK => ?_) AllReadyH.nil)
                obtain ⟨m0, m1q, m2, q0, q1c, q2c⟩ := deal_cells HR9.out
                obtain ⟨z0, z1, z2, -⟩ := deal_put HR9.out (.bool true) (.int .i64 (edAs an es).ver) (.slice q9 k9 r9)
                have hin := deal_inside w9 (w.heap.size + 1) (.bool true) (.int .i64 (edAs an es).ver) (.slice q9 k9 r9)
                have hgr : w9.grownBy (((w9.setCell ⟨w.heap.size + 1, 0, none⟩ (.bool true)).setCell ⟨w.heap.size + 1, 1, none⟩ (.int .i64 (edAs an es).ver)).setCell ⟨w.heap.size + 1, 2, none⟩ (.slice q9 k9 r9)) (some (w.heap.size + 1)) := ((set_grown w9 (w.heap.size + 1) 0 _).trans (set_grown _ (w.heap.size + 1) 1 _)).trans (set_grown _ (w.heap.size + 1) 2 _)
                have hne : w.heap.size + 1 ≠ w4.heap.size := by omega
                go_simp
                refine hK.out _ _ ⟨(cell_off (cell_stay CG.out.1 HB13.out) hgr (by simpa using hne)), (cell_off (cell_stay CG.out.2.1 HB13.out) hgr (by simpa using hne))⟩ (fun hHeld => ?_)
                clear hK K
                try simp only [Act.put, List.setIfInBounds_toArray, List.set_cons_zero, List.set_cons_succ]
                refine wpAnyH_done (by kernel_rfl) ?_ _
                go_wp2_with fail
                (try simp only [Exit.inBlock, Exit.then])
                refine bodyPost_ret (by simp [results, Tryz.results23, go_sem, z0, z1, z2]; try rfl) rfl ?_
                rw [HE.out]
                have hs9 : W0.heap.size ≤ w8.heap.size := HB12.out.size
                have hs10 : W0.heap.size ≤ w9.heap.size := HB14.out.size
                exact ⟨_, rfl, own_dl (lo := w8.heap.size) (hi := w9.heap.size) (HO9.out.aside hin HS9.out (by omega)) HS9.out (by omega) (by simp) (Nat.le_refl _), hin.to (HB.out.trans (HB14.out.mono HB.out.size)) (by omega) (by omega)⟩
            · have hmn : (M != N) = true := by simpa using hMN
              have HE := Lib.hid (HD1.out hMN)
              clear hMN
              go_wp2_with fail
              refine KF.out.mono ?_
              rintro e8 w8 ⟨rfl, hb8⟩
              have HB12 : Hid (Below W0.heap.size W0 w8) := Lib.hid (HB11.out.trans (hb8.mono HB11.out.size))
              have HR8 := Lib.hid ((HB12.out.block (w.heap.size + 1) (by omega)).trans HR.out)
              clear hb8 KF x0 x1 g0 g1
              obtain ⟨m0, m1, m2, q0, q1, q2⟩ := deal_cells HR8.out
              obtain ⟨z0, z1, z2, -⟩ := deal_put HR8.out (.bool false) (.int .i64 0) (.slice none 0 0)
              have hin := deal_inside w8 (w.heap.size + 1) (.bool false) (.int .i64 0) (.slice none 0 0)
              go_wp2_with fail
              (try simp only [Exit.inBlock, Exit.then])
              refine bodyPost_ret (by simp [results, Tryz.results23, go_sem, z0, z1, z2]; try rfl) rfl ?_
              rw [HE.out]
              exact ⟨_, rfl, no_dl (by have := HB12.out.size; simp only [World.size_setCell]; omega), hin.to (HB.out.trans (HB12.out.mono HB.out.size)) (by omega) (by have := HB12.out.size; omega)⟩
theorem specRunHandshake_any {w : World} {v : Value} {x : Hel} {va ta ea : Option Addr} {vn vc tn tc en ec : Nat} {vs ts : List Int} {es : List Et} (key : Int) (h : HelW w v x) (h1 : Nums .i64 w va vn vs) (h2 : Nums .i64 w ta tn ts) (hz : ∀ z ∈ ts, (Lit.int .i64 z).wf = true) (he : Ets w ea en es) (hes : ∀ e ∈ es, e.wf) (hn : vn ≤ 1048576) (hm : tn ≤ 1048576) :
    Calls Tryz.prog 23 #[v, .slice va vn vc, .slice ta tn tc, .int .i64 key, .slice ea en ec] w (MadeDl w.heap.size (runH x vs ts key es) w) := by
  cases hx : isH x with
  | false => exact specrun_odd key h h1 h2 hz he hes hn hm hx
  | true =>
    by_cases h6 : 6 < en
    · exact specrun_many key h h1 h2 hz he hes hn hm hx h6
    · cases hch : chA vs ts (edHs x es) with
      | none => exact specrun_none key h h1 h2 hz he hes hn hm hx (by omega) hch
      | some an =>
        rw [runH_some hx (by have := he.len; omega) hch]
        exact specrun_some key h h1 h2 hz he hes hn hm hx (by omega) hch
set_option maxHeartbeats 4000000 in
set_option maxRecDepth 100000 in
theorem specHonestDeal_any {w : World} {v : Value} {x : Hel} {va ta : Option Addr} {vn vc tn tc : Nat} {vs ts : List Int} (key : Int) (h : HelW w v x) (h1 : Nums .i64 w va vn vs) (h2 : Nums .i64 w ta tn ts) (hz : ∀ z ∈ ts, (Lit.int .i64 z).wf = true) (hn : vn ≤ 1048576) (hm : tn ≤ 1048576) :
    Calls Tryz.prog 15 #[v, .slice va vn vc, .slice ta tn tc, .int .i64 key] w (MadeDl w.heap.size (runH x vs ts key []) w) := by
  obtain ⟨a, n, c, b, m, d, rfl⟩ := h.shape
  obtain ⟨hsz, hX, hR, hB0⟩ := two w #[.slice a n c, .slice b m d] #[.bool false, .int .i64 0, .slice none 0 0] 27 32
  have HR := Lib.hid hR
  have HB := Lib.hid hB0
  have KR := Lib.hid (specRunHandshake_any (vc := vc) (tc := tc) (ec := 0) key (h.same hB0) (h1.same hB0) (h2.same hB0) hz (Items.nothing (enc := Et.enc) (s := 2)) (fun _ q => by cases q) hn hm)
  unfold MadeDl at KR
  clear h h1 h2 hz hR hB0
  obtain ⟨x0, x1, -⟩ := two_cells hX
  unfold MadeDl
  go_enter Tryz.func15, Tryz.ntmps15
  go_wp2_with fail
  clear x0 x1 hX
  generalize ((w.alloc (.cells #[.slice a n c, .slice b m d] 27)).alloc (.cells #[.bool false, .int .i64 0, .slice none 0 0] 32)) = W0 at *
  refine KR.out.mono ?_
  rintro e9 w9 ⟨v9, rfl, ho9, hb9⟩
  obtain ⟨q9, k9, r9, rfl⟩ := ho9.shape
  have HB10 : Hid (Below W0.heap.size W0 w9) := Lib.hid hb9
  have HO9 := Lib.hid ho9
  have HR9 := Lib.hid ((HB10.out.block (w.heap.size + 1) (by omega)).trans HR.out)
  clear ho9 hb9 KR
  obtain ⟨n0, n1, n2, o0, o1, o2⟩ := deal_cells HR9.out
  obtain ⟨u0, u1, u2, -⟩ := deal_put HR9.out (.bool (runH x vs ts key []).ok) (.int .i64 (runH x vs ts key []).ver) (.slice q9 k9 r9)
  have hin := deal_inside w9 (w.heap.size + 1) (.bool (runH x vs ts key []).ok) (.int .i64 (runH x vs ts key []).ver) (.slice q9 k9 r9)
  go_wp2_with fail
  (try simp only [Exit.inBlock, Exit.then])
  refine bodyPost_ret (by simp [results, Tryz.results15, go_sem, u0, u1, u2]; try rfl) rfl ?_
  exact ⟨_, rfl, ((HO9.out.aside hin (Or.inl (by omega))).lower (by omega)).top (by simp) (Nat.le_refl _), hin.to (HB.out.trans (HB10.out.mono HB.out.size)) (by omega) (by have := HB10.out.size; omega)⟩
end Go.Proofs.YtcmjadfpifpknaaGreat
namespace Go.Proofs.YtcmjadfpifpknaaGreat
open Go.ChangeShapes Go.WideShapes Go.ChangeAt Go.RowKit
set_option linter.unusedVariables false

set_option maxHeartbeats 2000000 in
set_option maxRecDepth 100000 in
theorem markExtS_any (S B : Nat) (a : Option Addr) (n c j0 : Nat) (l : List Vl) (w : World) (h : OwnVB S 125 3 w B a n c l) (h0 : j0 ≤ 100000000000) (hn : n ≤ 1000000000) (hit : itemsOf l ≤ 1000000000) :
    Calls Tryz.prog 81 #[.slice a n c, .int .i64 j0] w fun e w' => e = .returned (.int .i64 ((j0 + n + itemsOf l : Nat) : Int)) ∧ OwnVB S 125 3 w' B a n c (marksV j0 l) ∧ Inside B S w w' := by
  have H := Lib.hid h
  have hln := Lib.hid h.len
  clear h
  go_enter Tryz.func81, Tryz.ntmps81
  go_wp2_with fail
  go_loopw [1, 5] (fun q i wr => ∃ j : Nat, j ≤ n ∧ i = .int .i64 j ∧ q = .int .i64 ((j0 + j + itemsOf (l.take j) : Nat) : Int) ∧ OwnVB S 125 3 wr B a n c (marksV j0 (l.take j) ++ l.drop j) ∧ Inside B S w wr) (fun _ i _ => n - (intOf i).toNat)
  case atStart => exact ⟨0, Nat.zero_le _, rfl, by simp [itemsOf], by simpa [marksV] using H.out, Inside.refl _ _ _⟩
  case round =>
    obtain ⟨j, hj, rfl, rfl, hown, hg⟩ := hrel
    by_cases hlt : j < n
    · obtain ⟨x, hx⟩ : ∃ x, l[j]? = some x := ⟨_, List.getElem?_eq_getElem (by rw [hln.out]; exact hlt)⟩
      have hst := itemsOf_at hx
      have hle := itemsOf_le l (j + 1)
      have hpre : (marksV j0 (l.take j)).length = j := by rw [marksV_len, List.length_take, hln.out]; omega
      rw [drop_at hx] at hown
      have hmid := get_mid _ j hpre x (l.drop (j + 1))
      obtain ⟨q, hq⟩ : ∃ q : Nat, q = j0 + j + itemsOf (l.take j) := ⟨_, rfl⟩
      have hqb : q ≤ 200000000000 := by omega
      have hnext : j0 + (j + 1) + itemsOf (l.take (j + 1)) = q + 1 + x.items.length := by omega
      have hxl : x.items.length ≤ 1000000000 := by omega
      rw [← hq]
      obtain ⟨hs, h1, h2, hL⟩ := hown
      obtain ⟨g, e, _, _⟩ := h1.head (by omega)
      subst e
      have hp := OwnVB.putNum ⟨hs, h1, h2, hL⟩ hmid (q : Int)
      rw [set_mid _ j hpre] at hp
      have hf0 := h1.2.frozenAt (j * 2)
      obtain ⟨u0, hu0⟩ := row_cell h1.2 (k := j * 2) (by omega)
      obtain ⟨hs2, k1, k2, kL⟩ := hp.1
      have hjv : j < hs2.length := by rw [k2.1]; simp; omega
      have hmid2 := get_mid _ j hpre (⟨(q : Int), x.items⟩ : Vl) (l.drop (j + 1))
      have hv := List.getElem?_eq_getElem hjv
      obtain ⟨v, hvv⟩ : ∃ v, v = hs2[j] := ⟨_, rfl⟩
      rw [← hvv] at hv
      obtain ⟨vn, vp, vm, vc⟩ := v
      obtain ⟨e1, ho, _⟩ := k2.2.1 j _ _ hv hmid2
      dsimp only at ho
      have hc1 := (k1.items Vh.enc_len).at_ (j := j) (by omega)
      obtain ⟨b', o', g', eb, hg', hcell⟩ := hc1
      cases eb
      rw [hv] at hg'
      cases hg'
      have hhdr := hcell 1 _ rfl
      dsimp only at hhdr
      have hvm : vm = x.items.length := by rw [← ho.len]
      subst hvm
      have HMK := Lib.hid (markIntS_any B vp x.items.length vc (q + 1) x.items _ ho (by omega) (by omega))
      have HIN := Lib.hid (hg.trans hp.2)
      have HOV := Lib.hid (fun (w' : World) (y : List Int) => OwnVB.over (w' := w') (y := y) k1 k2 kL hmid2 hv)
      have HX := Lib.hid hx
      have HPRE := Lib.hid hpre
      have HQ := Lib.hid hq
      have HN := Lib.hid hnext
      clear hx hpre hmid hmid2 h1 h2 hL hp k1 k2 kL hv hvv e1 ho hcell hg hq hst hnext
      simp only [Nat.zero_add] at hhdr
      go_wp2_with fail
      refine HMK.out.mono ?_
      rintro e w2 ⟨rfl, ho2, hg2⟩
      obtain ⟨k3, hi3⟩ := HOV.out _ _ hg2 ho2
      rw [set_mid _ j HPRE.out] at k3
      have HOW := Lib.hid k3
      have HIN2 := Lib.hid (HIN.out.trans hi3)
      clear k3 hi3 ho2 hg2 HOV HMK
      go_wp2_with fail
      go_roundw
      case rel =>
        refine ⟨j + 1, by omega, by go_num, ?_, ?_, HIN2.out⟩
        · rw [HN.out]
          congr 1
        · rw [marksV_take j0 HX.out, List.append_assoc, ← HQ.out]
          exact HOW.out
      case measure => simp [intOf]; omega
    · obtain rfl : j = n := by omega
      have hall : l.take j = l := List.take_of_length_le (by rw [hln.out]; omega)
      have hnone : l.drop j = [] := List.drop_eq_nil_of_le (by rw [hln.out]; omega)
      rw [hall, hnone, List.append_nil] at hown
      rw [hall]
      have HW := Lib.hid hown
      have HG := Lib.hid hg
      clear hown hg hall hnone
      go_wp2_with fail
      go_ret
      exact ⟨rfl, HW.out, HG.out⟩
end Go.Proofs.YtcmjadfpifpknaaGreat
namespace Go.Proofs.YtcmjadfpifpknaaGreat
open Go.ChangeShapes Go.WideShapes Go.ChangeAt Go.RowKit
set_option linter.unusedVariables false
set_option linter.unusedSimpArgs false

theorem rdHel_parts (y : List Int) : (rdHel y).parts ≤ 1000 := by
  have := rdHel_few y
  unfold Hel.parts
  omega
theorem chAns_parts (vs ts : List Int) (x : Hel) : (chAns vs ts x).parts ≤ 1000 := by
  have := chAns_few vs ts x
  unfold Ans.parts
  omega
def marksHel (k : Nat) (x : Hel) : Hel := ⟨marksIntS k x.vers.length, marksV (k + x.vers.length) x.exts⟩
def marksAns (k : Nat) (x : Ans) : Ans := ⟨x.ver, marksV k x.exts⟩
set_option maxHeartbeats 1000000 in
set_option maxRecDepth 100000 in
theorem markHello_any {S B k : Nat} {w : World} {v : Value} {x : Hel} (h : OwnHel S w B v x) (hk : k ≤ 1000000000) (hn : x.parts ≤ 1000000000) :
    Calls Tryz.prog 31 #[v, .int .i64 k] w fun e w' => e = .returned (.int .i64 ((k + x.parts : Nat) : Int)) ∧ OwnHel S w' B v (marksHel k x) ∧ Inside B S w w' := by
  obtain ⟨va, vn, vc, xa, xn, xc, lo, hi, lo', hi', rfl, g1, g2, h3, h4, h5, h6, h7⟩ := h
  have e1 := g1.len
  have e2 := g2.len
  unfold Hel.parts at hn
  unfold Hel.parts marksHel
  rw [e1, e2] at hn ⊢
  have HB := Lib.hid (alloc_same w (.cells #[.slice va vn vc, .slice xa xn xc] 27))
  have hC := heap_alloc_new w (.cells #[.slice va vn vc, .slice xa xn xc] 27 (0, 0))
  change (w.alloc (.cells #[.slice va vn vc, .slice xa xn xc] 27)).heap[w.heap.size]? = _ at hC
  have hlt : w.heap.size < (w.alloc (.cells #[.slice va vn vc, .slice xa xn xc] 27)).heap.size := by simp
  have KI := Lib.hid (markIntS_any lo va vn vc k x.vers (w.alloc (.cells #[.slice va vn vc, .slice xa xn xc] 27)) (g1.same HB.out) (by omega) (by omega))
  have G2 := Lib.hid (g2.same HB.out)
  have HH := Lib.hid (And.intro h3 (And.intro h4 (And.intro h5 (And.intro h6 h7))))
  have HI0 : Hid (Inside B S w (w.alloc (.cells #[.slice va vn vc, .slice xa xn xc] 27))) := Lib.hid (Inside.row (grown_below HB.out none) (fun r e => by cases e))
  have HN := Lib.hid hn
  clear g1 g2 h3 h4 h5 h6 h7 e1 e2 hn
  go_enter Tryz.func31, Tryz.ntmps31
  go_wp2_with fail
  generalize w.alloc (.cells #[.slice va vn vc, .slice xa xn xc] 27) = W0 at *
  refine KI.out.mono ?_
  rintro e w1 ⟨rfl, ho, hg⟩
  obtain ⟨h3, h4, h5, h6, h7⟩ := HH.out
  have hin : Inside lo hi W0 w1 := Inside.row hg (fun r e => by obtain ⟨ad, e1, rfl⟩ := block_of e; exact h3 ad e1)
  have hC1 := (hin.block w.heap.size hlt (Or.inr (by omega))).trans hC
  obtain ⟨c0, c1, _, _⟩ := two_cells hC1
  have HI1 := Lib.hid (HI0.out.trans (Inside.mk hin.os hin.tape hin.output hin.size (fun q hq hd => hin.block q hq (by omega))))
  have HO1 := Lib.hid ho
  have KE := Lib.hid (markExtS_any hi' lo' xa xn xc (k + vn) x.exts w1 (G2.out.aside hin h6) (by have := HN.out; omega) (by have := HN.out; omega) (by have := HN.out; omega))
  clear ho hg hin hC1 hC h3 h4 h5 h6 h7
  go_wp2_with fail
  refine KE.out.mono ?_
  rintro e w2 ⟨rfl, ho, hin2⟩
  obtain ⟨h3, h4, h5, h6, h7⟩ := HH.out
  have HI2 := Lib.hid (HI1.out.trans (Inside.mk hin2.os hin2.tape hin2.output hin2.size (fun q hq hd => hin2.block q hq (by omega))))
  have HF := Lib.hid (own_hel (B := B) (S := S) (HO1.out.aside hin2 h3 (by omega)) ho h3 h4.1 h4.2 h5.1 h5.2 h6 (Nat.le_trans h7 HI2.out.size))
  clear ho hin2 h3 h4 h5 h6 h7 c0 c1
  go_wp2_with fail
  go_ret
  rw [show k + (vn + (xn + itemsOf x.exts)) = k + vn + xn + itemsOf x.exts by omega]
  exact ⟨rfl, HF.out, HI2.out⟩
end Go.Proofs.YtcmjadfpifpknaaGreat
namespace Go.Proofs.YtcmjadfpifpknaaGreat
open Go.ChangeShapes Go.WideShapes Go.ChangeAt Go.RowKit
set_option linter.unusedVariables false

set_option maxRecDepth 100000 in
theorem trod_vals {T E I : TypeId} {f0 f1 : Field} (hT : Tryz.prog.underlying T = some (.slice E)) (hE : Tryz.prog.underlying E = some (.struct #[f0, f1])) (hone : Go.Deep.oneCellFields Tryz.prog #[f0, f1] = true) (hC : Tryz.prog.cellsOf E = 2)
    (t0 : Tryz.prog.underlying f0.type = some (.int .i64)) (t1 : Tryz.prog.underlying f1.type = some (.slice I)) (tI : Tryz.prog.underlying I = some (.int .i64)) (hI : Tryz.prog.cellsOf I = 1)
    {H : Type} {enc : TypeId × Value → H} {W : World} {fuel : Nat} {cs : List Value} {y : DataW H × List MemPlace} (h : DataW.trod enc Tryz.prog W 0 (fun _ => true) true fuel T cs = some y) :
    ∃ (a : Option Addr) (n c : Nat) (l : List Vl), cs = [.slice a n c] ∧ Vals W a n l ∧ (∀ x ∈ l, x.wf) ∧ n ≤ c ∧ (c : Int) ≤ 9223372036854775807 := by
  rcases Go.Deep.open_slice hT h with ⟨hcs, hx⟩ | ⟨a, len, cap, m, n, D, Pl, hcs, hb, hl, hm, hmm, hx, hi⟩
  · exact ⟨none, 0, 0, [], hcs, Vals.nothing, (fun _ h => by cases h), Nat.le_refl _, by omega⟩
  · simp only [if_true] at hmm
    subst hmm
    have each : ∀ i, i < len → ∃ x : Vl, (∃ q k e, W.cell? ((a.add (i * 2)).add 0) = some (.int .i64 x.num) ∧ W.cell? ((a.add (i * 2)).add 1) = some (.slice q k e) ∧ Nums .i64 W q k x.items ∧ k ≤ e ∧ (e : Int) ≤ 9223372036854775807) ∧ x.wf := by
      intro i hil
      obtain ⟨cs', hc, ht'⟩ := hi i (by omega)
      rw [hC] at hc
      obtain ⟨ys, k, _, _, hlen, hyl, hfs⟩ := DataW.trod_struct hE ht'
      obtain ⟨_, hcl, hat⟩ := World.cells?_some hc
      obtain ⟨o0, k0⟩ := Go.Deep.hone_of hone 0 f0 rfl
      obtain ⟨o1, k1⟩ := Go.Deep.hone_of hone 1 f1 rfl
      match cs', hlen.trans hC with
      | [c0, c1], _ =>
        have g0 := hfs 0 f0 rfl
        have g1 := hfs 1 f1 rfl
        rw [o0, k0] at g0
        rw [o1, k1] at g1
        have hys : ys.length = 2 := hyl
        obtain ⟨x0, rfl, w0⟩ := one_cell t0 g0 (by rw [List.getElem?_eq_getElem (by omega)]; rfl)
        obtain ⟨y1, g1'⟩ := trod_some g1 (by rw [List.getElem?_eq_getElem (by omega)]; rfl)
        obtain ⟨q, kk, e, l, hq, hN, hw, hr⟩ := trod_nums t1 tI hI g1'
        have hc1 : c1 = .slice q kk e := by simpa using hq
        subst hc1
        exact ⟨⟨x0, l⟩, ⟨q, kk, e, by rw [hat 0 (by omega)]; rfl, by rw [hat 1 (by omega)]; rfl, hN, hr⟩, w0, hw⟩
    have each' : ∀ i, ∃ x : Vl, i < len → (∃ q k e, W.cell? ((a.add (i * 2)).add 0) = some (.int .i64 x.num) ∧ W.cell? ((a.add (i * 2)).add 1) = some (.slice q k e) ∧ Nums .i64 W q k x.items ∧ k ≤ e ∧ (e : Int) ≤ 9223372036854775807) ∧ x.wf := fun i => by
      by_cases h : i < len
      · obtain ⟨x, hx⟩ := each i h
        exact ⟨x, fun _ => hx⟩
      · exact ⟨⟨0, []⟩, fun h' => absurd h' h⟩
    obtain ⟨g, hg⟩ := Classical.axiomOfChoice each'
    unfold maxLen at hm
    refine ⟨some a, len, m, (List.range len).map g, hcs, ⟨by simp, by omega, fun j x hj => ?_⟩, ?_, hl, by omega⟩
    · have hjl : j < len := by
        rcases Nat.lt_or_ge j len with h | h
        · exact h
        · rw [List.getElem?_eq_none (by simpa using h)] at hj; cases hj
      rw [List.getElem?_map, List.getElem?_range hjl] at hj
      cases hj
      obtain ⟨q, k, e, h0, h1, hN, hr⟩ := (hg j hjl).1
      obtain ⟨q', k', e', z0, _⟩ := (hg 0 (by omega)).1
      obtain ⟨b, o, spot⟩ := a
      have hspot : spot = none := by
        rw [addr_add, show (0 * 2 + 0) = 0 from rfl, show (⟨b, o, spot⟩ : Addr).add 0 = ⟨b, o, spot⟩ from rfl] at z0
        exact World.cell?_spot z0
      subst hspot
      have e0 : ∀ i, ((⟨b, o, none⟩ : Addr).add (j * 2)).add i = ⟨b, o + j * 2 + i, none⟩ := fun i => by
        rw [addr_add]
        unfold Addr.add
        split <;> simp_all <;> omega
      rw [e0] at h0 h1
      exact ⟨b, o, q, k, e, rfl, h0, h1, hN, hr⟩
    · intro x hx
      obtain ⟨i, hi', rfl⟩ := List.mem_map.1 hx
      exact (hg i (List.mem_range.1 hi')).2
def Hel.wf (x : Hel) : Prop := (∀ z ∈ x.vers, (Lit.int .i64 z).wf = true) ∧ ∀ z ∈ x.exts, z.wf
def Ans.wf (x : Ans) : Prop := (Lit.int .i64 x.ver).wf = true ∧ ∀ z ∈ x.exts, z.wf
set_option maxRecDepth 100000 in
theorem open_hel {E I M : TypeId} {f0 f1 g0 g1 : Field} (hE : Tryz.prog.underlying E = some (.struct #[f0, f1])) (hone : Go.Deep.oneCellFields Tryz.prog #[f0, f1] = true) (hC : Tryz.prog.cellsOf E = 2)
    (t0 : Tryz.prog.underlying f0.type = some (.slice I)) (tI : Tryz.prog.underlying I = some (.int .i64)) (hI : Tryz.prog.cellsOf I = 1)
    (t1 : Tryz.prog.underlying f1.type = some (.slice M)) (hM : Tryz.prog.underlying M = some (.struct #[g0, g1])) (honeM : Go.Deep.oneCellFields Tryz.prog #[g0, g1] = true) (hCM : Tryz.prog.cellsOf M = 2)
    (m0 : Tryz.prog.underlying g0.type = some (.int .i64)) (m1 : Tryz.prog.underlying g1.type = some (.slice I))
    {H : Type} {enc : TypeId × Value → H} {W : World} {base : Nat} {v : Value} {d : DataW H} {p : List MemPlace}
    (hval : Value.okWide Tryz.prog W .any base E v) (h : DataW.Trod enc Tryz.prog W 0 (fun _ => true) true E v d p) : ∃ x : Hel, HelW W v x ∧ x.wf := by
  obtain ⟨v0, v1, y0, y1, n, rfl, _, _, h0, h1⟩ := Go.Joins.open_agg2 hE hone hC hval h
  obtain ⟨a, k, c, l1, e1, b1, w1, r1⟩ := trod_nums t0 tI hI h0
  obtain ⟨b, m, dd, l2, e2, b2, w2, r2⟩ := trod_vals t1 hM honeM hCM m0 m1 tI hI h1
  have f1 : v0 = .slice a k c := by simpa using e1
  have f2 : v1 = .slice b m dd := by simpa using e2
  subst f1 f2
  exact ⟨⟨l1, l2⟩, ⟨a, k, c, b, m, dd, rfl, b1, b2, r1, r2⟩, w1, w2⟩
set_option maxRecDepth 100000 in
theorem open_ans {E I M : TypeId} {f0 f1 g0 g1 : Field} (hE : Tryz.prog.underlying E = some (.struct #[f0, f1])) (hone : Go.Deep.oneCellFields Tryz.prog #[f0, f1] = true) (hC : Tryz.prog.cellsOf E = 2)
    (t0 : Tryz.prog.underlying f0.type = some (.int .i64)) (tI : Tryz.prog.underlying I = some (.int .i64)) (hI : Tryz.prog.cellsOf I = 1)
    (t1 : Tryz.prog.underlying f1.type = some (.slice M)) (hM : Tryz.prog.underlying M = some (.struct #[g0, g1])) (honeM : Go.Deep.oneCellFields Tryz.prog #[g0, g1] = true) (hCM : Tryz.prog.cellsOf M = 2)
    (m0 : Tryz.prog.underlying g0.type = some (.int .i64)) (m1 : Tryz.prog.underlying g1.type = some (.slice I))
    {H : Type} {enc : TypeId × Value → H} {W : World} {base : Nat} {v : Value} {d : DataW H} {p : List MemPlace}
    (hval : Value.okWide Tryz.prog W .any base E v) (h : DataW.Trod enc Tryz.prog W 0 (fun _ => true) true E v d p) : ∃ x : Ans, AnsW W v x ∧ x.wf := by
  obtain ⟨v0, v1, y0, y1, n, rfl, _, _, h0, h1⟩ := Go.Joins.open_agg2 hE hone hC hval h
  obtain ⟨x0, rfl, w0⟩ := one_cell t0 h0 rfl
  obtain ⟨b, m, dd, l2, e2, b2, w2, r2⟩ := trod_vals t1 hM honeM hCM m0 m1 tI hI h1
  have f2 : v1 = .slice b m dd := by simpa using e2
  subst f2
  exact ⟨⟨x0, l2⟩, ⟨b, m, dd, rfl, b2, r2⟩, w0, w2⟩
end Go.Proofs.YtcmjadfpifpknaaGreat
