/- Edits of hellos and of answers: by the program. What a side of a handshake saw, as a transcript; the deal that comes about: by the program. All edits made, one after the other, on a hello and on an answer: by the program. The extensions whose tags are asked for, by the program: what it asks is a function that may have captured a variable. -/
import Derived.Test.YtcmjadfpifpknaaGreatG23
import Derived.Test.YtcmjadfpifpknaaGreatG11
import Derived.Test.YtcmjadfpifpknaaGreatG18
import Derived.Test.YtcmjadfpifpknaaGreatG19
import Derived.Test.YtcmjadfpifpknaaGreatG20
import Derived.Test.YtcmjadfpifpknaaGreatG21
import Derived.Test.YtcmjadfpifpknaaGreatG9
namespace Go.Proofs.YtcmjadfpifpknaaGreat
open Go.ChangeShapes Go.WideShapes Go.ChangeAt Go.RowKit
set_option linter.unusedVariables false
set_option linter.unusedSimpArgs false

/-- Three boxes. -/
theorem thrice (w : World) (A B C : Array Value) (t1 t2 t3 : TypeId) :
    w.heap.size + 3 = (((w.alloc (.cells A t1)).alloc (.cells B t2)).alloc (.cells C t3)).heap.size ∧
    (((w.alloc (.cells A t1)).alloc (.cells B t2)).alloc (.cells C t3)).heap[w.heap.size]? = some (.cells A t1 (0, 0)) ∧
    (((w.alloc (.cells A t1)).alloc (.cells B t2)).alloc (.cells C t3)).heap[w.heap.size + 1]? = some (.cells B t2 (0, 0)) ∧
    (((w.alloc (.cells A t1)).alloc (.cells B t2)).alloc (.cells C t3)).heap[w.heap.size + 2]? = some (.cells C t3 (0, 0)) ∧
    Below w.heap.size w (((w.alloc (.cells A t1)).alloc (.cells B t2)).alloc (.cells C t3)) := by
  obtain ⟨h0, h1, h2, h3⟩ := two w A B t1 t2
  have hb := alloc_same ((w.alloc (.cells A t1)).alloc (.cells B t2)) (.cells C t3)
  refine ⟨by simp, (hb.block _ (by omega)).trans h1, (hb.block _ (by omega)).trans h2, ?_, h3.trans (hb.mono h3.size)⟩
  have := heap_alloc_new ((w.alloc (.cells A t1)).alloc (.cells B t2)) (.cells C t3)
  rw [← h0] at this
  exact this
theorem set2_grown (w : World) (g : Nat) (u v : Value) : w.grownBy ((w.setCell ⟨g, 0, none⟩ u).setCell ⟨g, 1, none⟩ v) (some g) := (set_grown w g 0 u).trans (set_grown _ g 1 v)
/-- A hello by value whose lists are the call's own, from B on, the versions first. -/
def FreeH (B : Nat) (w : World) (v : Value) (x : Hel) : Prop :=
  ∃ (a : Option Addr) (n c : Nat) (b : Option Addr) (m d lo hi lo' hi' : Nat), v = .agg #[.slice a n c, .slice b m d] ∧ Own .i64 3 w lo a n c x.vers ∧ OwnVB hi' 125 3 w lo' b m d x.exts ∧ Span a lo hi ∧ B ≤ lo ∧ hi ≤ lo' ∧ hi' ≤ w.heap.size ∧ B ≤ lo' ∧ lo' ≤ w.heap.size ∧ hi ≤ w.heap.size
def FreeA (B : Nat) (w : World) (v : Value) (x : Ans) : Prop :=
  ∃ (b : Option Addr) (m d lo' hi' : Nat), v = .agg #[.int .i64 x.ver, .slice b m d] ∧ OwnVB hi' 125 3 w lo' b m d x.exts ∧ hi' ≤ w.heap.size ∧ B ≤ lo' ∧ lo' ≤ w.heap.size
theorem edH_0 {x : Hel} {e : Et} (h : findE e.kind hedL = none) : edH x e = x := by
  unfold hedL at h
  simp only [findE] at h
  unfold edH
  split at h
  · cases h
  · split at h
    · cases h
    · split at h
      · cases h
      · split at h
        · cases h
        · rename_i h6 h3 h2 h1
          rw [if_neg (fun q => h1 q.symm), if_neg (fun q => h2 q.symm), if_neg (fun q => h3 q.symm), if_neg (fun q => h6 q.symm)]
theorem edA_0 {x : Ans} {e : Et} (h : findE e.kind aedL = none) : edA x e = x := by
  unfold aedL at h
  simp only [findE] at h
  unfold edA
  split at h
  · cases h
  · split at h
    · cases h
    · rename_i h5 h4
      rw [if_neg (fun q => h4 q.symm), if_neg (fun q => h5 q.symm)]
set_option maxHeartbeats 4000000 in
set_option maxRecDepth 100000 in
theorem editedH_1 {B e0 : Nat} {w : World} {v : Value} {x : Hel} {e : Et} (h : FreeH B w v x) (hM : EdMap w e0 hedL) (hw : (Lit.int .i64 e.kind).wf = true) (hn : x.vers.length ≤ 1048576) (hm : x.exts.length ≤ 1048576) (hit : itemsOf x.exts ≤ 1048576) (hk : e.kind = 1) :
    Calls Tryz.prog 58 #[v, .map (some e0), .agg #[.int .i64 e.kind, .int .i64 e.n]] w (MadeHel B (edH x e) w) := by
  have hed : edH x e = (⟨dropV x.vers e.n, x.exts⟩ : Hel) := by
    unfold edH
    rw [hk]
    rw [if_pos rfl]
  rw [hed]
  obtain ⟨a, n, c, b, m, d, lo, hi, lo', hi', rfl, h1, h2, h3, l1, l2, l3, l4, l5, l6⟩ := h
  obtain ⟨hsz, hX, hE, hR, hB0⟩ := thrice w #[.slice a n c, .slice b m d] #[.int .i64 e.kind, .int .i64 e.n] #[.slice none 0 0, .slice none 0 0] 27 40 27
  have hl := (hM.same hB0).look Tryz.underlying94 (hedZ _) hw
  have hfe : findE e.kind hedL = some (.func (.func 103) #[] #[]) := by rw [hk]; rfl
  rw [hfe] at hl
  simp only [Option.getD_some, Option.isSome_some] at hl
  clear hfe hk
  have H1 := Lib.hid (h1.same hB0)
  have H2 := Lib.hid (h2.same hB0)
  clear h1 h2
  have HX := Lib.hid hX
  have HR := Lib.hid hR
  have HB := Lib.hid hB0
  obtain ⟨e0c, e1c, -⟩ := two_cells hE
  clear hX hE hR hB0 hM hw
  unfold MadeHel
  go_enter Tryz.func58, Tryz.ntmps58
  go_wp2_with fail
  generalize (((w.alloc (.cells #[.slice a n c, .slice b m d] 27)).alloc (.cells #[.int .i64 e.kind, .int .i64 e.n] 40)).alloc (.cells #[.slice none 0 0, .slice none 0 0] 27)) = W0 at *
  refine (dropHelloVersion_any (B := B) (g := w.heap.size) (x := x) e.n ⟨a, n, c, b, m, d, lo, hi, lo', hi', HX.out, H1.out, H2.out, h3, l1, l2, l3, l4, l5, l6⟩ (by omega)).mono ?_
  rintro e2 w2 ⟨a', n', c', b', m', d', rfl, hbox, hst, hfr⟩
  have HI := Lib.hid hfr
  have HS := Lib.hid hst
  have hs2 := hfr.size
  have HR2 := Lib.hid ((hfr.block (w.heap.size + 2) (by omega) (Or.inr (by omega))).trans HR.out)
  have HX2 := Lib.hid hbox
  clear hfr hst hbox hl e0c e1c
  obtain ⟨x0, x1, -⟩ := two_cells HX2.out
  obtain ⟨m0, m1, q0, q1⟩ := two_cells HR2.out
  obtain ⟨z0, z1, -⟩ := two_put HR2.out (.slice a' n' c') (.slice b' m' d')
  go_wp2_with fail
  (try simp only [Exit.inBlock, Exit.then])
  refine bodyPost_ret (by simp [results, Tryz.results58, go_sem, z0, z1]; try rfl) rfl ?_
  have hgr := set2_grown w2 (w.heap.size + 2) (.slice a' n' c') (.slice b' m' d')
  exact ⟨_, rfl, HS.out _ _ hgr (by omega) (by omega), (HI.out.to (HB.out.mono (by omega)) (Nat.le_refl _) (by omega)).grown hgr (by omega) (fun r e => by cases e; omega)⟩
set_option maxHeartbeats 4000000 in
set_option maxRecDepth 100000 in
theorem editedH_2 {B e0 : Nat} {w : World} {v : Value} {x : Hel} {e : Et} (h : FreeH B w v x) (hM : EdMap w e0 hedL) (hw : (Lit.int .i64 e.kind).wf = true) (hn : x.vers.length ≤ 1048576) (hm : x.exts.length ≤ 1048576) (hit : itemsOf x.exts ≤ 1048576) (hk : e.kind = 2) :
    Calls Tryz.prog 58 #[v, .map (some e0), .agg #[.int .i64 e.kind, .int .i64 e.n]] w (MadeHel B (edH x e) w) := by
  have hed : edH x e = (⟨addV x.vers e.n, x.exts⟩ : Hel) := by
    unfold edH
    rw [hk]
    rw [if_neg (show ¬ (2 : Int) = 1 by decide), if_pos rfl]
  rw [hed]
  obtain ⟨a, n, c, b, m, d, lo, hi, lo', hi', rfl, h1, h2, h3, l1, l2, l3, l4, l5, l6⟩ := h
  obtain ⟨hsz, hX, hE, hR, hB0⟩ := thrice w #[.slice a n c, .slice b m d] #[.int .i64 e.kind, .int .i64 e.n] #[.slice none 0 0, .slice none 0 0] 27 40 27
  have hl := (hM.same hB0).look Tryz.underlying94 (hedZ _) hw
  have hfe : findE e.kind hedL = some (.func (.func 104) #[] #[]) := by rw [hk]; rfl
  rw [hfe] at hl
  simp only [Option.getD_some, Option.isSome_some] at hl
  clear hfe hk
  have H1 := Lib.hid (h1.same hB0)
  have H2 := Lib.hid (h2.same hB0)
  clear h1 h2
  have HX := Lib.hid hX
  have HR := Lib.hid hR
  have HB := Lib.hid hB0
  obtain ⟨e0c, e1c, -⟩ := two_cells hE
  clear hX hE hR hB0 hM hw
  unfold MadeHel
  go_enter Tryz.func58, Tryz.ntmps58
  go_wp2_with fail
  generalize (((w.alloc (.cells #[.slice a n c, .slice b m d] 27)).alloc (.cells #[.int .i64 e.kind, .int .i64 e.n] 40)).alloc (.cells #[.slice none 0 0, .slice none 0 0] 27)) = W0 at *
  refine (addHelloVersion_any (B := B) (g := w.heap.size) (x := x) e.n ⟨a, n, c, b, m, d, lo, hi, lo', hi', HX.out, H1.out, H2.out, h3, l1, l2, l3, l4, l5, l6⟩ (by omega)).mono ?_
  rintro e2 w2 ⟨a', n', c', b', m', d', rfl, hbox, hst, hfr⟩
  have HI := Lib.hid hfr
  have HS := Lib.hid hst
  have hs2 := hfr.size
  have HR2 := Lib.hid ((hfr.block (w.heap.size + 2) (by omega) (Or.inr (by omega))).trans HR.out)
  have HX2 := Lib.hid hbox
  clear hfr hst hbox hl e0c e1c
  obtain ⟨x0, x1, -⟩ := two_cells HX2.out
  obtain ⟨m0, m1, q0, q1⟩ := two_cells HR2.out
  obtain ⟨z0, z1, -⟩ := two_put HR2.out (.slice a' n' c') (.slice b' m' d')
  go_wp2_with fail
  (try simp only [Exit.inBlock, Exit.then])
  refine bodyPost_ret (by simp [results, Tryz.results58, go_sem, z0, z1]; try rfl) rfl ?_
  have hgr := set2_grown w2 (w.heap.size + 2) (.slice a' n' c') (.slice b' m' d')
  exact ⟨_, rfl, HS.out _ _ hgr (by omega) (by omega), (HI.out.to (HB.out.mono (by omega)) (Nat.le_refl _) (by omega)).grown hgr (by omega) (fun r e => by cases e; omega)⟩
set_option maxHeartbeats 4000000 in
set_option maxRecDepth 100000 in
theorem editedH_3 {B e0 : Nat} {w : World} {v : Value} {x : Hel} {e : Et} (h : FreeH B w v x) (hM : EdMap w e0 hedL) (hw : (Lit.int .i64 e.kind).wf = true) (hn : x.vers.length ≤ 1048576) (hm : x.exts.length ≤ 1048576) (hit : itemsOf x.exts ≤ 1048576) (hk : e.kind = 3) :
    Calls Tryz.prog 58 #[v, .map (some e0), .agg #[.int .i64 e.kind, .int .i64 e.n]] w (MadeHel B (edH x e) w) := by
  have hed : edH x e = (⟨x.vers, dropX e.n x.exts⟩ : Hel) := by
    unfold edH
    rw [hk]
    rw [if_neg (show ¬ (3 : Int) = 1 by decide), if_neg (show ¬ (3 : Int) = 2 by decide), if_pos rfl]
  rw [hed]
  obtain ⟨a, n, c, b, m, d, lo, hi, lo', hi', rfl, h1, h2, h3, l1, l2, l3, l4, l5, l6⟩ := h
  obtain ⟨hsz, hX, hE, hR, hB0⟩ := thrice w #[.slice a n c, .slice b m d] #[.int .i64 e.kind, .int .i64 e.n] #[.slice none 0 0, .slice none 0 0] 27 40 27
  have hl := (hM.same hB0).look Tryz.underlying94 (hedZ _) hw
  have hfe : findE e.kind hedL = some (.func (.func 105) #[] #[]) := by rw [hk]; rfl
  rw [hfe] at hl
  simp only [Option.getD_some, Option.isSome_some] at hl
  clear hfe hk
  have H1 := Lib.hid (h1.same hB0)
  have H2 := Lib.hid (h2.same hB0)
  clear h1 h2
  have HX := Lib.hid hX
  have HR := Lib.hid hR
  have HB := Lib.hid hB0
  obtain ⟨e0c, e1c, -⟩ := two_cells hE
  clear hX hE hR hB0 hM hw
  unfold MadeHel
  go_enter Tryz.func58, Tryz.ntmps58
  go_wp2_with fail
  generalize (((w.alloc (.cells #[.slice a n c, .slice b m d] 27)).alloc (.cells #[.int .i64 e.kind, .int .i64 e.n] 40)).alloc (.cells #[.slice none 0 0, .slice none 0 0] 27)) = W0 at *
  refine (dropHelloExt_any (B := B) (g := w.heap.size) (x := x) e.n ⟨a, n, c, b, m, d, lo, hi, lo', hi', HX.out, H1.out, H2.out, h3, l1, l2, l3, l4, l5, l6⟩ hm hit).mono ?_
  rintro e2 w2 ⟨a', n', c', b', m', d', rfl, hbox, hst, hfr⟩
  have HI := Lib.hid hfr
  have HS := Lib.hid hst
  have hs2 := hfr.size
  have HR2 := Lib.hid ((hfr.block (w.heap.size + 2) (by omega) (Or.inr (by omega))).trans HR.out)
  have HX2 := Lib.hid hbox
  clear hfr hst hbox hl e0c e1c
  obtain ⟨x0, x1, -⟩ := two_cells HX2.out
  obtain ⟨m0, m1, q0, q1⟩ := two_cells HR2.out
  obtain ⟨z0, z1, -⟩ := two_put HR2.out (.slice a' n' c') (.slice b' m' d')
  go_wp2_with fail
  (try simp only [Exit.inBlock, Exit.then])
  refine bodyPost_ret (by simp [results, Tryz.results58, go_sem, z0, z1]; try rfl) rfl ?_
  have hgr := set2_grown w2 (w.heap.size + 2) (.slice a' n' c') (.slice b' m' d')
  exact ⟨_, rfl, HS.out _ _ hgr (by omega) (by omega), (HI.out.to (HB.out.mono (by omega)) (Nat.le_refl _) (by omega)).grown hgr (by omega) (fun r e => by cases e; omega)⟩
set_option maxHeartbeats 4000000 in
set_option maxRecDepth 100000 in
theorem editedH_6 {B e0 : Nat} {w : World} {v : Value} {x : Hel} {e : Et} (h : FreeH B w v x) (hM : EdMap w e0 hedL) (hw : (Lit.int .i64 e.kind).wf = true) (hn : x.vers.length ≤ 1048576) (hm : x.exts.length ≤ 1048576) (hit : itemsOf x.exts ≤ 1048576) (hk : e.kind = 6) :
    Calls Tryz.prog 58 #[v, .map (some e0), .agg #[.int .i64 e.kind, .int .i64 e.n]] w (MadeHel B (edH x e) w) := by
  have hed : edH x e = (⟨x.vers, addE e.n x.exts⟩ : Hel) := by
    unfold edH
    rw [hk]
    rw [if_neg (show ¬ (6 : Int) = 1 by decide), if_neg (show ¬ (6 : Int) = 2 by decide), if_neg (show ¬ (6 : Int) = 3 by decide), if_pos rfl]
  rw [hed]
  obtain ⟨a, n, c, b, m, d, lo, hi, lo', hi', rfl, h1, h2, h3, l1, l2, l3, l4, l5, l6⟩ := h
  obtain ⟨hsz, hX, hE, hR, hB0⟩ := thrice w #[.slice a n c, .slice b m d] #[.int .i64 e.kind, .int .i64 e.n] #[.slice none 0 0, .slice none 0 0] 27 40 27
  have hl := (hM.same hB0).look Tryz.underlying94 (hedZ _) hw
  have hfe : findE e.kind hedL = some (.func (.func 106) #[] #[]) := by rw [hk]; rfl
  rw [hfe] at hl
  simp only [Option.getD_some, Option.isSome_some] at hl
  clear hfe hk
  have H1 := Lib.hid (h1.same hB0)
  have H2 := Lib.hid (h2.same hB0)
  clear h1 h2
  have HX := Lib.hid hX
  have HR := Lib.hid hR
  have HB := Lib.hid hB0
  obtain ⟨e0c, e1c, -⟩ := two_cells hE
  clear hX hE hR hB0 hM hw
  unfold MadeHel
  go_enter Tryz.func58, Tryz.ntmps58
  go_wp2_with fail
  generalize (((w.alloc (.cells #[.slice a n c, .slice b m d] 27)).alloc (.cells #[.int .i64 e.kind, .int .i64 e.n] 40)).alloc (.cells #[.slice none 0 0, .slice none 0 0] 27)) = W0 at *
  refine (addHelloExt_any (B := B) (g := w.heap.size) (x := x) e.n ⟨a, n, c, b, m, d, lo, hi, lo', hi', HX.out, H1.out, H2.out, h3, l1, l2, l3, l4, l5, l6⟩ hm).mono ?_
  rintro e2 w2 ⟨a', n', c', b', m', d', rfl, hbox, hst, hfr⟩
  have HI := Lib.hid hfr
  have HS := Lib.hid hst
  have hs2 := hfr.size
  have HR2 := Lib.hid ((hfr.block (w.heap.size + 2) (by omega) (Or.inr (by omega))).trans HR.out)
  have HX2 := Lib.hid hbox
  clear hfr hst hbox hl e0c e1c
  obtain ⟨x0, x1, -⟩ := two_cells HX2.out
  obtain ⟨m0, m1, q0, q1⟩ := two_cells HR2.out
  obtain ⟨z0, z1, -⟩ := two_put HR2.out (.slice a' n' c') (.slice b' m' d')
  go_wp2_with fail
  (try simp only [Exit.inBlock, Exit.then])
  refine bodyPost_ret (by simp [results, Tryz.results58, go_sem, z0, z1]; try rfl) rfl ?_
  have hgr := set2_grown w2 (w.heap.size + 2) (.slice a' n' c') (.slice b' m' d')
  exact ⟨_, rfl, HS.out _ _ hgr (by omega) (by omega), (HI.out.to (HB.out.mono (by omega)) (Nat.le_refl _) (by omega)).grown hgr (by omega) (fun r e => by cases e; omega)⟩
set_option maxHeartbeats 4000000 in
set_option maxRecDepth 100000 in
theorem editedH_0 {B e0 : Nat} {w : World} {v : Value} {x : Hel} {e : Et} (h : FreeH B w v x) (hM : EdMap w e0 hedL) (hw : (Lit.int .i64 e.kind).wf = true) (hn : x.vers.length ≤ 1048576) (hm : x.exts.length ≤ 1048576) (hit : itemsOf x.exts ≤ 1048576) (hk : findE e.kind hedL = none) :
    Calls Tryz.prog 58 #[v, .map (some e0), .agg #[.int .i64 e.kind, .int .i64 e.n]] w (MadeHel B (edH x e) w) := by
  obtain ⟨a, n, c, b, m, d, lo, hi, lo', hi', rfl, h1, h2, h3, l1, l2, l3, l4, l5, l6⟩ := h
  obtain ⟨hsz, hX, hE, hR, hB0⟩ := thrice w #[.slice a n c, .slice b m d] #[.int .i64 e.kind, .int .i64 e.n] #[.slice none 0 0, .slice none 0 0] 27 40 27
  obtain ⟨hszf, -, -, -, hBf⟩ := thrice w #[.slice a n c, .slice b m d] #[.int .i64 e.kind, .int .i64 e.n] #[.slice a n c, .slice b m d] 27 40 27
  have HF1 := Lib.hid (h1.same hBf)
  have HF2 := Lib.hid (h2.same hBf)
  have HFB := Lib.hid hBf
  clear hBf
  have hl := (hM.same hB0).look Tryz.underlying94 (hedZ _) hw
  rw [hk] at hl
  simp only [Option.getD_none, Option.isSome_none] at hl
  have hed := edH_0 (x := x) hk
  rw [hed]
  clear hk hed
  have H1 := Lib.hid (h1.same hB0)
  have H2 := Lib.hid (h2.same hB0)
  clear h1 h2
  have HX := Lib.hid hX
  have HR := Lib.hid hR
  have HB := Lib.hid hB0
  obtain ⟨e0c, e1c, -⟩ := two_cells hE
  obtain ⟨x0, x1, -⟩ := two_cells hX
  obtain ⟨m0, m1, q0, q1⟩ := two_cells hR
  obtain ⟨z0, z1, -⟩ := two_put hR (.slice a n c) (.slice b m d)
  clear hX hE hR hB0 hM hw
  unfold MadeHel
  go_enter Tryz.func58, Tryz.ntmps58
  go_wp2_with fail
  --generalize (((w.alloc (.cells #[.slice a n c, .slice b m d] 27)).alloc (.cells #[.int .i64 e.kind, .int .i64 e.n] 40)).alloc (.cells #[.slice none 0 0, .slice none 0 0] 27)) = W0 at *
  (try simp only [Exit.inBlock, Exit.then])
  refine bodyPost_ret (by simp [results, Tryz.results58, go_sem, z0, z1]; try rfl) rfl ?_
  exact ⟨_, rfl, own_hel (lo := lo) (hi := hi) (lo' := lo') (hi' := hi') HF1.out HF2.out h3 l1 l4 (by omega) (by omega) (Or.inl l2) (Nat.le_refl _), HFB.out.mono (by omega)⟩
set_option maxHeartbeats 4000000 in
set_option maxRecDepth 100000 in
theorem editedH_any {B e0 : Nat} {w : World} {v : Value} {x : Hel} {e : Et} (h : FreeH B w v x) (hM : EdMap w e0 hedL) (hw : (Lit.int .i64 e.kind).wf = true) (hn : x.vers.length ≤ 1048576) (hm : x.exts.length ≤ 1048576) (hit : itemsOf x.exts ≤ 1048576) :
    Calls Tryz.prog 58 #[v, .map (some e0), .agg #[.int .i64 e.kind, .int .i64 e.n]] w (MadeHel B (edH x e) w) := by
  cases hf : findE e.kind hedL with
  | none => exact editedH_0 h hM hw hn hm hit hf
  | some f =>
    by_cases h1 : e.kind = 1
    · exact editedH_1 h hM hw hn hm hit h1
    by_cases h2 : e.kind = 2
    · exact editedH_2 h hM hw hn hm hit h2
    by_cases h3 : e.kind = 3
    · exact editedH_3 h hM hw hn hm hit h3
    by_cases h6 : e.kind = 6
    · exact editedH_6 h hM hw hn hm hit h6
    exfalso
    unfold hedL at hf
    simp only [findE] at hf
    rw [if_neg (fun q => h6 q.symm), if_neg (fun q => h3 q.symm), if_neg (fun q => h2 q.symm), if_neg (fun q => h1 q.symm)] at hf
    cases hf
set_option maxHeartbeats 4000000 in
set_option maxRecDepth 100000 in
theorem editedA_4 {B e0 : Nat} {w : World} {v : Value} {x : Ans} {e : Et} (h : FreeA B w v x) (hM : EdMap w e0 aedL) (hw : (Lit.int .i64 e.kind).wf = true) (hm : x.exts.length ≤ 1048576) (hit : itemsOf x.exts ≤ 1048576) (hk : e.kind = 4) :
    Calls Tryz.prog 63 #[v, .map (some e0), .agg #[.int .i64 e.kind, .int .i64 e.n]] w (MadeAns B (edA x e) w) := by
  have hed : edA x e = (⟨setV e.n x.ver, x.exts⟩ : Ans) := by
    unfold edA
    rw [hk]
    rw [if_pos rfl]
  rw [hed]
  obtain ⟨b, m, d, lo', hi', rfl, h2, l3, l4, l5⟩ := h
  obtain ⟨hsz, hX, hE, hR, hB0⟩ := thrice w #[.int .i64 x.ver, .slice b m d] #[.int .i64 e.kind, .int .i64 e.n] #[.int .i64 0, .slice none 0 0] 44 40 44
  have hl := (hM.same hB0).look Tryz.underlying97 (aedZ _) hw
  have hfe : findE e.kind aedL = some (.func (.func 107) #[] #[]) := by rw [hk]; rfl
  rw [hfe] at hl
  simp only [Option.getD_some, Option.isSome_some] at hl
  clear hfe hk
  have H2 := Lib.hid (h2.same hB0)
  clear h2
  have HX := Lib.hid hX
  have HR := Lib.hid hR
  have HB := Lib.hid hB0
  obtain ⟨e0c, e1c, -⟩ := two_cells hE
  clear hX hE hR hB0 hM hw
  unfold MadeAns
  go_enter Tryz.func63, Tryz.ntmps63
  go_wp2_with fail
  generalize (((w.alloc (.cells #[.int .i64 x.ver, .slice b m d] 44)).alloc (.cells #[.int .i64 e.kind, .int .i64 e.n] 40)).alloc (.cells #[.int .i64 0, .slice none 0 0] 44)) = W0 at *
  refine (setAnswerVersion_any (B := B) (g := w.heap.size) (x := x) e.n ⟨b, m, d, lo', hi', HX.out, H2.out, l3, l4, l5⟩).mono ?_
  rintro e2 w2 ⟨b', m', d', rfl, hbox, hst, hfr⟩
  have HI := Lib.hid hfr
  have HS := Lib.hid hst
  have hs2 := hfr.size
  have HR2 := Lib.hid ((hfr.block (w.heap.size + 2) (by omega) (Or.inr (by omega))).trans HR.out)
  have HX2 := Lib.hid hbox
  clear hfr hst hbox hl e0c e1c
  obtain ⟨x0, x1, -⟩ := two_cells HX2.out
  obtain ⟨m0, m1, q0, q1⟩ := two_cells HR2.out
  obtain ⟨z0, z1, -⟩ := two_put HR2.out (.int .i64 (⟨setV e.n x.ver, x.exts⟩ : Ans).ver) (.slice b' m' d')
  go_wp2_with fail
  (try simp only [Exit.inBlock, Exit.then])
  refine bodyPost_ret (by simp [results, Tryz.results63, go_sem, z0, z1]; try rfl) rfl ?_
  have hgr := set2_grown w2 (w.heap.size + 2) (.int .i64 (⟨setV e.n x.ver, x.exts⟩ : Ans).ver) (.slice b' m' d')
  exact ⟨_, rfl, HS.out _ _ hgr (by omega) (by omega), (HI.out.to (HB.out.mono (by omega)) (Nat.le_refl _) (by omega)).grown hgr (by omega) (fun r e => by cases e; omega)⟩
set_option maxHeartbeats 4000000 in
set_option maxRecDepth 100000 in
theorem editedA_5 {B e0 : Nat} {w : World} {v : Value} {x : Ans} {e : Et} (h : FreeA B w v x) (hM : EdMap w e0 aedL) (hw : (Lit.int .i64 e.kind).wf = true) (hm : x.exts.length ≤ 1048576) (hit : itemsOf x.exts ≤ 1048576) (hk : e.kind = 5) :
    Calls Tryz.prog 63 #[v, .map (some e0), .agg #[.int .i64 e.kind, .int .i64 e.n]] w (MadeAns B (edA x e) w) := by
  have hed : edA x e = (⟨x.ver, dropX e.n x.exts⟩ : Ans) := by
    unfold edA
    rw [hk]
    rw [if_neg (show ¬ (5 : Int) = 4 by decide), if_pos rfl]
  rw [hed]
  obtain ⟨b, m, d, lo', hi', rfl, h2, l3, l4, l5⟩ := h
  obtain ⟨hsz, hX, hE, hR, hB0⟩ := thrice w #[.int .i64 x.ver, .slice b m d] #[.int .i64 e.kind, .int .i64 e.n] #[.int .i64 0, .slice none 0 0] 44 40 44
  have hl := (hM.same hB0).look Tryz.underlying97 (aedZ _) hw
  have hfe : findE e.kind aedL = some (.func (.func 108) #[] #[]) := by rw [hk]; rfl
  rw [hfe] at hl
  simp only [Option.getD_some, Option.isSome_some] at hl
  clear hfe hk
  have H2 := Lib.hid (h2.same hB0)
  clear h2
  have HX := Lib.hid hX
  have HR := Lib.hid hR
  have HB := Lib.hid hB0
  obtain ⟨e0c, e1c, -⟩ := two_cells hE
  clear hX hE hR hB0 hM hw
  unfold MadeAns
  go_enter Tryz.func63, Tryz.ntmps63
  go_wp2_with fail
  generalize (((w.alloc (.cells #[.int .i64 x.ver, .slice b m d] 44)).alloc (.cells #[.int .i64 e.kind, .int .i64 e.n] 40)).alloc (.cells #[.int .i64 0, .slice none 0 0] 44)) = W0 at *
  refine (dropAnswerExt_any (B := B) (g := w.heap.size) (x := x) e.n ⟨b, m, d, lo', hi', HX.out, H2.out, l3, l4, l5⟩ hm hit).mono ?_
  rintro e2 w2 ⟨b', m', d', rfl, hbox, hst, hfr⟩
  have HI := Lib.hid hfr
  have HS := Lib.hid hst
  have hs2 := hfr.size
  have HR2 := Lib.hid ((hfr.block (w.heap.size + 2) (by omega) (Or.inr (by omega))).trans HR.out)
  have HX2 := Lib.hid hbox
  clear hfr hst hbox hl e0c e1c
  obtain ⟨x0, x1, -⟩ := two_cells HX2.out
  obtain ⟨m0, m1, q0, q1⟩ := two_cells HR2.out
  obtain ⟨z0, z1, -⟩ := two_put HR2.out (.int .i64 (⟨x.ver, dropX e.n x.exts⟩ : Ans).ver) (.slice b' m' d')
  go_wp2_with fail
  (try simp only [Exit.inBlock, Exit.then])
  refine bodyPost_ret (by simp [results, Tryz.results63, go_sem, z0, z1]; try rfl) rfl ?_
  have hgr := set2_grown w2 (w.heap.size + 2) (.int .i64 (⟨x.ver, dropX e.n x.exts⟩ : Ans).ver) (.slice b' m' d')
  exact ⟨_, rfl, HS.out _ _ hgr (by omega) (by omega), (HI.out.to (HB.out.mono (by omega)) (Nat.le_refl _) (by omega)).grown hgr (by omega) (fun r e => by cases e; omega)⟩
set_option maxHeartbeats 4000000 in
set_option maxRecDepth 100000 in
theorem editedA_0 {B e0 : Nat} {w : World} {v : Value} {x : Ans} {e : Et} (h : FreeA B w v x) (hM : EdMap w e0 aedL) (hw : (Lit.int .i64 e.kind).wf = true) (hm : x.exts.length ≤ 1048576) (hit : itemsOf x.exts ≤ 1048576) (hk : findE e.kind aedL = none) :
    Calls Tryz.prog 63 #[v, .map (some e0), .agg #[.int .i64 e.kind, .int .i64 e.n]] w (MadeAns B (edA x e) w) := by
  obtain ⟨b, m, d, lo', hi', rfl, h2, l3, l4, l5⟩ := h
  obtain ⟨hsz, hX, hE, hR, hB0⟩ := thrice w #[.int .i64 x.ver, .slice b m d] #[.int .i64 e.kind, .int .i64 e.n] #[.int .i64 0, .slice none 0 0] 44 40 44
  obtain ⟨hszf, -, -, -, hBf⟩ := thrice w #[.int .i64 x.ver, .slice b m d] #[.int .i64 e.kind, .int .i64 e.n] #[.int .i64 x.ver, .slice b m d] 44 40 44
  have HF2 := Lib.hid (h2.same hBf)
  have HFB := Lib.hid hBf
  clear hBf
  have hl := (hM.same hB0).look Tryz.underlying97 (aedZ _) hw
  rw [hk] at hl
  simp only [Option.getD_none, Option.isSome_none] at hl
  have hed := edA_0 (x := x) hk
  rw [hed]
  clear hk hed
  have H2 := Lib.hid (h2.same hB0)
  clear h2
  have HX := Lib.hid hX
  have HR := Lib.hid hR
  have HB := Lib.hid hB0
  obtain ⟨e0c, e1c, -⟩ := two_cells hE
  obtain ⟨x0, x1, -⟩ := two_cells hX
  obtain ⟨m0, m1, q0, q1⟩ := two_cells hR
  obtain ⟨z0, z1, -⟩ := two_put hR (.int .i64 x.ver) (.slice b m d)
  clear hX hE hR hB0 hM hw
  unfold MadeAns
  go_enter Tryz.func63, Tryz.ntmps63
  go_wp2_with fail
  --generalize (((w.alloc (.cells #[.int .i64 x.ver, .slice b m d] 44)).alloc (.cells #[.int .i64 e.kind, .int .i64 e.n] 40)).alloc (.cells #[.int .i64 0, .slice none 0 0] 44)) = W0 at *
  (try simp only [Exit.inBlock, Exit.then])
  refine bodyPost_ret (by simp [results, Tryz.results63, go_sem, z0, z1]; try rfl) rfl ?_
  exact ⟨_, rfl, own_ans (lo := lo') (hi := hi') HF2.out l4 (by omega) (Nat.le_refl _), HFB.out.mono (by omega)⟩
set_option maxHeartbeats 4000000 in
set_option maxRecDepth 100000 in
theorem editedA_any {B e0 : Nat} {w : World} {v : Value} {x : Ans} {e : Et} (h : FreeA B w v x) (hM : EdMap w e0 aedL) (hw : (Lit.int .i64 e.kind).wf = true) (hm : x.exts.length ≤ 1048576) (hit : itemsOf x.exts ≤ 1048576) :
    Calls Tryz.prog 63 #[v, .map (some e0), .agg #[.int .i64 e.kind, .int .i64 e.n]] w (MadeAns B (edA x e) w) := by
  cases hf : findE e.kind aedL with
  | none => exact editedA_0 h hM hw hm hit hf
  | some f =>
    by_cases h4 : e.kind = 4
    · exact editedA_4 h hM hw hm hit h4
    by_cases h5 : e.kind = 5
    · exact editedA_5 h hM hw hm hit h5
    exfalso
    unfold aedL at hf
    simp only [findE] at hf
    rw [if_neg (fun q => h5 q.symm), if_neg (fun q => h4 q.symm)] at hf
    cases hf
set_option maxHeartbeats 4000000 in
set_option maxRecDepth 100000 in
theorem editHello_any {w : World} {v : Value} {x : Hel} {e : Et} (h : HelW w v x) (hw : (Lit.int .i64 e.kind).wf = true) (hn : x.vers.length ≤ 1048576) (hm : x.exts.length ≤ 1048576) (hit : itemsOf x.exts ≤ 1048576) :
    Calls Tryz.prog 18 #[v, .agg #[.int .i64 e.kind, .int .i64 e.n]] w (MadeHel w.heap.size (edH x e) w) := by
  obtain ⟨a, n, c, b, m, d, rfl, ⟨h1, hc1⟩, h2, hc2⟩ := h.parts
  obtain ⟨hsz, hX, hE, hR, hB0⟩ := thrice w #[.slice a n c, .slice b m d] #[.int .i64 e.kind, .int .i64 e.n] #[.slice none 0 0, .slice none 0 0] 27 40 27
  have hlm := h2.len
  have hln := h1.len
  have H1 := Lib.hid (h1.same hB0)
  have H2 := Lib.hid (h2.same hB0)
  have CE := Lib.hid (two_cells hE)
  have CX := Lib.hid (two_cells hX)
  have HR := Lib.hid hR
  have HB := Lib.hid hB0
  clear h2 h1 hX hE hR hB0
  unfold MadeHel
  go_enter Tryz.func18, Tryz.ntmps18
  go_wp2_with fail
  generalize (((w.alloc (.cells #[.slice a n c, .slice b m d] 27)).alloc (.cells #[.int .i64 e.kind, .int .i64 e.n] 40)).alloc (.cells #[.slice none 0 0, .slice none 0 0] 27)) = W0 at *
  have hd0 : W0.heap.size ≤ W0.drew.heap.size := Nat.le_refl _
  have HBd : Hid (Below W0.heap.size W0 W0.drew) := Lib.hid (Below.refl _ _).drew
  refine wp_region_held_drew (S := fun w9 => (w9.cell? ⟨w.heap.size, 0, none⟩ = some (.slice a n c) ∧ w9.cell? ⟨w.heap.size, 1, none⟩ = some (.slice b m d)) ∧ w9.cell? ⟨w.heap.size + 1, 0, none⟩ = some (.int .i64 e.kind) ∧ w9.cell? ⟨w.heap.size + 1, 1, none⟩ = some (.int .i64 e.n)) (by kernel_rfl) ⟨⟨(cell_stay CX.out.1 HBd.out), (cell_stay CX.out.2.1 HBd.out)⟩, (cell_stay CE.out.1 HBd.out), (cell_stay CE.out.2.1 HBd.out)⟩ (fun hHeld => ?_)
  refine wpAnyH_take (i := 0) (v := ?v1) (by simp only [List.getElem?_toArray, List.getElem?_cons_succ, List.getElem?_cons_zero]; rfl) (by kernel_rfl) (by kernel_rfl) (by kernel_rfl) (by exact fun _ _ _ h => h) (Or.inl ⟨by rfl, fun w9 hS9 => ?hy1⟩) hHeld ?rest1
  case hy1 =>
    dsimp only at hS9
    obtain ⟨⟨y0, y1⟩, y2, y3⟩ := hS9
    go_simp
    try with_reducible rfl
  try simp only [Act.put, List.setIfInBounds_toArray, List.set_cons_zero, List.set_cons_succ]
  refine wpAnyH_take (i := 1) (v := ?v2) (by simp only [List.getElem?_toArray, List.getElem?_cons_succ, List.getElem?_cons_zero]; rfl) (by kernel_rfl) (by kernel_rfl) (by kernel_rfl) (by exact fun _ _ _ h => h) (Or.inl ⟨by rfl, fun w9 hS9 => ?hy2⟩) hHeld ?rest2
  case hy2 =>
    dsimp only at hS9
    obtain ⟨⟨y0, y1⟩, y2, y3⟩ := hS9
    go_simp
    try with_reducible rfl
  try simp only [Act.put, List.setIfInBounds_toArray, List.set_cons_zero, List.set_cons_succ]
  refine wpAnyH_take (i := 3) (v := ?v3) (by simp only [List.getElem?_toArray, List.getElem?_cons_succ, List.getElem?_cons_zero]; rfl) (by kernel_rfl) (by kernel_rfl) (by kernel_rfl) (by exact fun _ _ _ h => h) (Or.inl ⟨by rfl, fun w9 hS9 => ?hy3⟩) hHeld ?rest3
  case hy3 =>
    dsimp only at hS9
    obtain ⟨⟨y0, y1⟩, y2, y3⟩ := hS9
    go_simp
    try with_reducible rfl
  try simp only [Act.put, List.setIfInBounds_toArray, List.set_cons_zero, List.set_cons_succ]
  refine wpAnyH_take (i := 4) (v := ?v4) (by simp only [List.getElem?_toArray, List.getElem?_cons_succ, List.getElem?_cons_zero]; rfl) (by kernel_rfl) (by kernel_rfl) (by kernel_rfl) (by exact fun _ _ _ h => h) (Or.inl ⟨by rfl, fun w9 hS9 => ?hy4⟩) hHeld ?rest4
  case hy4 =>
    dsimp only at hS9
    obtain ⟨⟨y0, y1⟩, y2, y3⟩ := hS9
    go_simp
    try with_reducible rfl
  try simp only [Act.put, List.setIfInBounds_toArray, List.set_cons_zero, List.set_cons_succ]
  refine wpAnyH_take (i := 8) (v := ?v5) (by simp only [List.getElem?_toArray, List.getElem?_cons_succ, List.getElem?_cons_zero]; rfl) (by kernel_rfl) (by kernel_rfl) (by kernel_rfl) (by exact fun _ _ _ h => h) (Or.inl ⟨by rfl, fun w9 hS9 => ?hy5⟩) hHeld ?rest5
  case hy5 =>
    dsimp only at hS9
    obtain ⟨⟨y0, y1⟩, y2, y3⟩ := hS9
    go_simp
    try with_reducible rfl
  try simp only [Act.put, List.setIfInBounds_toArray, List.set_cons_zero, List.set_cons_succ]
  refine wpAnyH_ready (rs := [2]) (by kernel_rfl) (by simp) (AllReadyH.cons (by simp only [List.getElem?_toArray, List.getElem?_cons_succ, List.getElem?_cons_zero]; rfl) (fun K hK => ?_) AllReadyH.nil)
  go_simp
  refine (copyList_any (H1.out.same HBd.out) (by omega)).mono ?_
  rintro e1 w1 ⟨a1, n1, c1, rfl, ho1, hb⟩
  have HB1 : Hid (Below W0.heap.size W0 w1) := Lib.hid (HBd.out.trans (hb.mono HBd.out.size))
  have hs1 : W0.drew.heap.size ≤ w1.heap.size := hb.size
  have HO1 := Lib.hid ho1
  have HS1 := Lib.hid ho1.span
  have hT1 : w1.heap.size ≤ w1.heap.size := Nat.le_refl _
  clear ho1
  clear hb
  go_wp2_with fail
  refine hK.out _ _ ⟨⟨(cell_stay CX.out.1 HB1.out), (cell_stay CX.out.2.1 HB1.out)⟩, (cell_stay CE.out.1 HB1.out), (cell_stay CE.out.2.1 HB1.out)⟩ (fun hHeld => ?_)
  clear hK K
  try simp only [Act.put, List.setIfInBounds_toArray, List.set_cons_zero, List.set_cons_succ]
  refine wpAnyH_ready (rs := [5]) (by kernel_rfl) (by simp) (AllReadyH.cons (by simp only [List.getElem?_toArray, List.getElem?_cons_succ, List.getElem?_cons_zero]; rfl) (fun K hK => ?_) AllReadyH.nil)
  go_simp
  refine (copyExts_any (H2.out.same HB1.out) (by omega) hit).mono ?_
  rintro e2 w2 ⟨g2, d2, rfl, ho2, hb⟩
  have HB2 : Hid (Below W0.heap.size W0 w2) := Lib.hid (HB1.out.trans (hb.mono HB1.out.size))
  have hs2 : w1.heap.size ≤ w2.heap.size := hb.size
  replace HO1 := Lib.hid (HO1.out.same hb)
  have HO2 := Lib.hid ho2.lim
  clear ho2
  clear hb
  go_wp2_with fail
  refine hK.out _ _ ⟨⟨(cell_stay CX.out.1 HB2.out), (cell_stay CX.out.2.1 HB2.out)⟩, (cell_stay CE.out.1 HB2.out), (cell_stay CE.out.2.1 HB2.out)⟩ (fun hHeld => ?_)
  clear hK K
  try simp only [Act.put, List.setIfInBounds_toArray, List.set_cons_zero, List.set_cons_succ]
  refine wpAnyH_take (i := 6) (v := ?v6) (by simp only [List.getElem?_toArray, List.getElem?_cons_succ, List.getElem?_cons_zero]; rfl) (by kernel_rfl) (by kernel_rfl) (by kernel_rfl) (by exact fun _ _ _ h => h) (Or.inl ⟨by rfl, fun w9 hS9 => ?hy6⟩) hHeld ?rest6
  case hy6 =>
    dsimp only at hS9
    obtain ⟨⟨y0, y1⟩, y2, y3⟩ := hS9
    go_simp
    try with_reducible rfl
  try simp only [Act.put, List.setIfInBounds_toArray, List.set_cons_zero, List.set_cons_succ]
  refine wpAnyH_ready (rs := [7]) (by kernel_rfl) (by simp) (AllReadyH.cons (by simp only [List.getElem?_toArray, List.getElem?_cons_succ, List.getElem?_cons_zero]; rfl) (fun K hK => ?_) AllReadyH.nil)
  go_simp
  refine (helloEdits_any w2).mono ?_
  rintro e3 w3 ⟨rfl, hm7, hb⟩
  have HB3 : Hid (Below W0.heap.size W0 w3) := Lib.hid (HB2.out.trans (hb.mono HB2.out.size))
  have hs3 : w2.heap.size ≤ w3.heap.size := hb.size
  replace HO1 := Lib.hid (HO1.out.same hb)
  replace HO2 := Lib.hid (HO2.out.same hb)
  have HM := Lib.hid hm7
  clear hm7
  clear hb
  go_wp2_with fail
  refine hK.out _ _ ⟨⟨(cell_stay CX.out.1 HB3.out), (cell_stay CX.out.2.1 HB3.out)⟩, (cell_stay CE.out.1 HB3.out), (cell_stay CE.out.2.1 HB3.out)⟩ (fun hHeld => ?_)
  clear hK K
  try simp only [Act.put, List.setIfInBounds_toArray, List.set_cons_zero, List.set_cons_succ]
  refine wpAnyH_ready (rs := [9]) (by kernel_rfl) (by simp) (AllReadyH.cons (by simp only [List.getElem?_toArray, List.getElem?_cons_succ, List.getElem?_cons_zero]; rfl) (fun K hK => ?_) AllReadyH.nil)
  go_simp
  refine (editedH_any (B := W0.heap.size) (e := e) ⟨a1, n1, c1, _, _, d2, W0.drew.heap.size, w1.heap.size, w1.heap.size, w2.heap.size, rfl, HO1.out, HO2.out, HS1.out, hd0, Nat.le_refl _, by omega, by omega, by omega, by omega⟩ HM.out hw (by omega) (by omega) hit).mono ?_
  rintro e4 w4 ⟨v9, rfl, ho9, hb⟩
  have hbs := hb.size
  have HB4 : Hid (Below W0.heap.size W0 w4) := Lib.hid (HB3.out.trans hb)
  obtain ⟨a', n', c', b', m', d', rfl⟩ := ho9.shape
  have HO9 := Lib.hid ho9
  clear hb ho9
  go_wp2_with fail
  refine hK.out _ _ ⟨⟨(cell_stay CX.out.1 HB4.out), (cell_stay CX.out.2.1 HB4.out)⟩, (cell_stay CE.out.1 HB4.out), (cell_stay CE.out.2.1 HB4.out)⟩ (fun hHeld => ?_)
  clear hK K
  try simp only [Act.put, List.setIfInBounds_toArray, List.set_cons_zero, List.set_cons_succ]
  refine wpAnyH_ready (rs := [10]) (by kernel_rfl) (by simp) (AllReadyH.cons (by simp only [List.getElem?_toArray, List.getElem?_cons_succ, List.getElem?_cons_zero]; rfl) (fun K hK => ?_) AllReadyH.nil)
  have HR9 := Lib.hid ((HB4.out.block (w.heap.size + 2) (by omega)).trans HR.out)
  obtain ⟨m0, m1, q0, q1⟩ := two_cells HR9.out
  obtain ⟨z0, z1, -⟩ := two_put HR9.out (.slice a' n' c') (.slice b' m' d')
  have hgr := set2_grown w4 (w.heap.size + 2) (.slice a' n' c') (.slice b' m' d')
  go_simp
  refine hK.out _ _ ⟨⟨(cell_off (cell_stay CX.out.1 HB4.out) hgr (by simp)), (cell_off (cell_stay CX.out.2.1 HB4.out) hgr (by simp))⟩, (cell_off (cell_stay CE.out.1 HB4.out) hgr (by simp)), (cell_off (cell_stay CE.out.2.1 HB4.out) hgr (by simp))⟩ (fun hHeld => ?_)
  clear hK K
  try simp only [Act.put, List.setIfInBounds_toArray, List.set_cons_zero, List.set_cons_succ]
  refine wpAnyH_done (by kernel_rfl) ?_ _
  go_wp2_with fail
  (try simp only [Exit.inBlock, Exit.then])
  refine bodyPost_ret (by simp [results, Tryz.results18, go_sem, z0, z1]; try rfl) rfl ?_
  exact ⟨_, rfl, ((HO9.out.aside (one_inside hgr) (Or.inl (by omega))).lower (by omega)).top (by simp) (Nat.le_refl _), ((HB.out.trans (HB4.out.mono (by omega))).grown hgr (by have := HB4.out.size; omega) (fun r e => by cases e; omega))⟩
set_option maxHeartbeats 4000000 in
set_option maxRecDepth 100000 in
theorem editAnswer_any {w : World} {v : Value} {x : Ans} {e : Et} (h : AnsW w v x) (hw : (Lit.int .i64 e.kind).wf = true) (hm : x.exts.length ≤ 1048576) (hit : itemsOf x.exts ≤ 1048576) :
    Calls Tryz.prog 20 #[v, .agg #[.int .i64 e.kind, .int .i64 e.n]] w (MadeAns w.heap.size (edA x e) w) := by
  obtain ⟨b, m, d, rfl, h2, hc2⟩ := h
  obtain ⟨hsz, hX, hE, hR, hB0⟩ := thrice w #[.int .i64 x.ver, .slice b m d] #[.int .i64 e.kind, .int .i64 e.n] #[.int .i64 0, .slice none 0 0] 44 40 44
  have hlm := h2.len
  have H2 := Lib.hid (h2.same hB0)
  have CE := Lib.hid (two_cells hE)
  have CX := Lib.hid (two_cells hX)
  have HR := Lib.hid hR
  have HB := Lib.hid hB0
  clear h2 hX hE hR hB0
  unfold MadeAns
  go_enter Tryz.func20, Tryz.ntmps20
  go_wp2_with fail
  generalize (((w.alloc (.cells #[.int .i64 x.ver, .slice b m d] 44)).alloc (.cells #[.int .i64 e.kind, .int .i64 e.n] 40)).alloc (.cells #[.int .i64 0, .slice none 0 0] 44)) = W0 at *
  have hd0 : W0.heap.size ≤ W0.drew.heap.size := Nat.le_refl _
  have HBd : Hid (Below W0.heap.size W0 W0.drew) := Lib.hid (Below.refl _ _).drew
  refine wp_region_held_drew (S := fun w9 => (w9.cell? ⟨w.heap.size, 0, none⟩ = some (.int .i64 x.ver) ∧ w9.cell? ⟨w.heap.size, 1, none⟩ = some (.slice b m d)) ∧ w9.cell? ⟨w.heap.size + 1, 0, none⟩ = some (.int .i64 e.kind) ∧ w9.cell? ⟨w.heap.size + 1, 1, none⟩ = some (.int .i64 e.n)) (by kernel_rfl) ⟨⟨(cell_stay CX.out.1 HBd.out), (cell_stay CX.out.2.1 HBd.out)⟩, (cell_stay CE.out.1 HBd.out), (cell_stay CE.out.2.1 HBd.out)⟩ (fun hHeld => ?_)
  refine wpAnyH_take (i := 0) (v := ?v7) (by simp only [List.getElem?_toArray, List.getElem?_cons_succ, List.getElem?_cons_zero]; rfl) (by kernel_rfl) (by kernel_rfl) (by kernel_rfl) (by exact fun _ _ _ h => h) (Or.inl ⟨by rfl, fun w9 hS9 => ?hy7⟩) hHeld ?rest7
  case hy7 =>
    dsimp only at hS9
    obtain ⟨⟨y0, y1⟩, y2, y3⟩ := hS9
    go_simp
    try with_reducible rfl
  try simp only [Act.put, List.setIfInBounds_toArray, List.set_cons_zero, List.set_cons_succ]
  refine wpAnyH_take (i := 1) (v := ?v8) (by simp only [List.getElem?_toArray, List.getElem?_cons_succ, List.getElem?_cons_zero]; rfl) (by kernel_rfl) (by kernel_rfl) (by kernel_rfl) (by exact fun _ _ _ h => h) (Or.inl ⟨by rfl, fun w9 hS9 => ?hy8⟩) hHeld ?rest8
  case hy8 =>
    dsimp only at hS9
    obtain ⟨⟨y0, y1⟩, y2, y3⟩ := hS9
    go_simp
    try with_reducible rfl
  try simp only [Act.put, List.setIfInBounds_toArray, List.set_cons_zero, List.set_cons_succ]
  refine wpAnyH_take (i := 2) (v := ?v9) (by simp only [List.getElem?_toArray, List.getElem?_cons_succ, List.getElem?_cons_zero]; rfl) (by kernel_rfl) (by kernel_rfl) (by kernel_rfl) (by exact fun _ _ _ h => h) (Or.inl ⟨by rfl, fun w9 hS9 => ?hy9⟩) hHeld ?rest9
  case hy9 =>
    dsimp only at hS9
    obtain ⟨⟨y0, y1⟩, y2, y3⟩ := hS9
    go_simp
    try with_reducible rfl
  try simp only [Act.put, List.setIfInBounds_toArray, List.set_cons_zero, List.set_cons_succ]
  refine wpAnyH_take (i := 3) (v := ?v10) (by simp only [List.getElem?_toArray, List.getElem?_cons_succ, List.getElem?_cons_zero]; rfl) (by kernel_rfl) (by kernel_rfl) (by kernel_rfl) (by exact fun _ _ _ h => h) (Or.inl ⟨by rfl, fun w9 hS9 => ?hy10⟩) hHeld ?rest10
  case hy10 =>
    dsimp only at hS9
    obtain ⟨⟨y0, y1⟩, y2, y3⟩ := hS9
    go_simp
    try with_reducible rfl
  try simp only [Act.put, List.setIfInBounds_toArray, List.set_cons_zero, List.set_cons_succ]
  refine wpAnyH_take (i := 7) (v := ?v11) (by simp only [List.getElem?_toArray, List.getElem?_cons_succ, List.getElem?_cons_zero]; rfl) (by kernel_rfl) (by kernel_rfl) (by kernel_rfl) (by exact fun _ _ _ h => h) (Or.inl ⟨by rfl, fun w9 hS9 => ?hy11⟩) hHeld ?rest11
  case hy11 =>
    dsimp only at hS9
    obtain ⟨⟨y0, y1⟩, y2, y3⟩ := hS9
    go_simp
    try with_reducible rfl
  try simp only [Act.put, List.setIfInBounds_toArray, List.set_cons_zero, List.set_cons_succ]
  refine wpAnyH_ready (rs := [4]) (by kernel_rfl) (by simp) (AllReadyH.cons (by simp only [List.getElem?_toArray, List.getElem?_cons_succ, List.getElem?_cons_zero]; rfl) (fun K hK => ?_) AllReadyH.nil)
  go_simp
  refine (copyExts_any (H2.out.same HBd.out) (by omega) hit).mono ?_
  rintro e1 w1 ⟨g2, d2, rfl, ho2, hb⟩
  have HB1 : Hid (Below W0.heap.size W0 w1) := Lib.hid (HBd.out.trans (hb.mono HBd.out.size))
  have hs1 : W0.drew.heap.size ≤ w1.heap.size := hb.size
  have HO2 := Lib.hid ho2.lim
  clear ho2
  clear hb
  go_wp2_with fail
  refine hK.out _ _ ⟨⟨(cell_stay CX.out.1 HB1.out), (cell_stay CX.out.2.1 HB1.out)⟩, (cell_stay CE.out.1 HB1.out), (cell_stay CE.out.2.1 HB1.out)⟩ (fun hHeld => ?_)
  clear hK K
  try simp only [Act.put, List.setIfInBounds_toArray, List.set_cons_zero, List.set_cons_succ]
  refine wpAnyH_take (i := 5) (v := ?v12) (by simp only [List.getElem?_toArray, List.getElem?_cons_succ, List.getElem?_cons_zero]; rfl) (by kernel_rfl) (by kernel_rfl) (by kernel_rfl) (by exact fun _ _ _ h => h) (Or.inl ⟨by rfl, fun w9 hS9 => ?hy12⟩) hHeld ?rest12
  case hy12 =>
    dsimp only at hS9
    obtain ⟨⟨y0, y1⟩, y2, y3⟩ := hS9
    go_simp
    try with_reducible rfl
  try simp only [Act.put, List.setIfInBounds_toArray, List.set_cons_zero, List.set_cons_succ]
  refine wpAnyH_ready (rs := [6]) (by kernel_rfl) (by simp) (AllReadyH.cons (by simp only [List.getElem?_toArray, List.getElem?_cons_succ, List.getElem?_cons_zero]; rfl) (fun K hK => ?_) AllReadyH.nil)
  go_simp
  refine (answerEdits_any w1).mono ?_
  rintro e2 w2 ⟨rfl, hm7, hb⟩
  have HB2 : Hid (Below W0.heap.size W0 w2) := Lib.hid (HB1.out.trans (hb.mono HB1.out.size))
  have hs2 : w1.heap.size ≤ w2.heap.size := hb.size
  replace HO2 := Lib.hid (HO2.out.same hb)
  have HM := Lib.hid hm7
  clear hm7
  clear hb
  go_wp2_with fail
  refine hK.out _ _ ⟨⟨(cell_stay CX.out.1 HB2.out), (cell_stay CX.out.2.1 HB2.out)⟩, (cell_stay CE.out.1 HB2.out), (cell_stay CE.out.2.1 HB2.out)⟩ (fun hHeld => ?_)
  clear hK K
  try simp only [Act.put, List.setIfInBounds_toArray, List.set_cons_zero, List.set_cons_succ]
  refine wpAnyH_ready (rs := [8]) (by kernel_rfl) (by simp) (AllReadyH.cons (by simp only [List.getElem?_toArray, List.getElem?_cons_succ, List.getElem?_cons_zero]; rfl) (fun K hK => ?_) AllReadyH.nil)
  go_simp
  refine (editedA_any (B := W0.heap.size) (e := e) ⟨_, _, d2, W0.drew.heap.size, w1.heap.size, rfl, HO2.out, by omega, hd0, by omega⟩ HM.out hw (by omega) hit).mono ?_
  rintro e3 w3 ⟨v9, rfl, ho9, hb⟩
  have hbs := hb.size
  have HB3 : Hid (Below W0.heap.size W0 w3) := Lib.hid (HB2.out.trans hb)
  obtain ⟨b', m', d', rfl⟩ := ho9.shape
  have HO9 := Lib.hid ho9
  clear hb ho9
  go_wp2_with fail
  refine hK.out _ _ ⟨⟨(cell_stay CX.out.1 HB3.out), (cell_stay CX.out.2.1 HB3.out)⟩, (cell_stay CE.out.1 HB3.out), (cell_stay CE.out.2.1 HB3.out)⟩ (fun hHeld => ?_)
  clear hK K
  try simp only [Act.put, List.setIfInBounds_toArray, List.set_cons_zero, List.set_cons_succ]
  refine wpAnyH_ready (rs := [9]) (by kernel_rfl) (by simp) (AllReadyH.cons (by simp only [List.getElem?_toArray, List.getElem?_cons_succ, List.getElem?_cons_zero]; rfl) (fun K hK => ?_) AllReadyH.nil)
  have HR9 := Lib.hid ((HB3.out.block (w.heap.size + 2) (by omega)).trans HR.out)
  obtain ⟨m0, m1, q0, q1⟩ := two_cells HR9.out
  obtain ⟨z0, z1, -⟩ := two_put HR9.out (.int .i64 (edA x e).ver) (.slice b' m' d')
  have hgr := set2_grown w3 (w.heap.size + 2) (.int .i64 (edA x e).ver) (.slice b' m' d')
  go_simp
  refine hK.out _ _ ⟨⟨(cell_off (cell_stay CX.out.1 HB3.out) hgr (by simp)), (cell_off (cell_stay CX.out.2.1 HB3.out) hgr (by simp))⟩, (cell_off (cell_stay CE.out.1 HB3.out) hgr (by simp)), (cell_off (cell_stay CE.out.2.1 HB3.out) hgr (by simp))⟩ (fun hHeld => ?_)
  clear hK K
  try simp only [Act.put, List.setIfInBounds_toArray, List.set_cons_zero, List.set_cons_succ]
  refine wpAnyH_done (by kernel_rfl) ?_ _
  go_wp2_with fail
  (try simp only [Exit.inBlock, Exit.then])
  refine bodyPost_ret (by simp [results, Tryz.results20, go_sem, z0, z1]; try rfl) rfl ?_
  exact ⟨_, rfl, ((HO9.out.aside (one_inside hgr) (Or.inl (by omega))).lower (by omega)).top (by simp) (Nat.le_refl _), ((HB.out.trans (HB3.out.mono (by omega))).grown hgr (by have := HB3.out.size; omega) (fun r e => by cases e; omega))⟩
end Go.Proofs.YtcmjadfpifpknaaGreat
namespace Go.Proofs.YtcmjadfpifpknaaGreat
open Go.ChangeShapes Go.WideShapes Go.ChangeAt Go.RowKit
set_option linter.unusedVariables false
set_option linter.unusedSimpArgs false

theorem rws_two {w : World} {q p : Option Addr} {k r m d : Nat} {l l' : List Int} (h1 : Nums .i64 w q k l) (h2 : Nums .i64 w p m l') (r1 : k ≤ r ∧ (r : Int) ≤ 9223372036854775807) (r2 : m ≤ d ∧ (d : Int) ≤ 9223372036854775807) :
    Rws (w.alloc (.cells #[.slice q k r, .slice p m d] 24)) (some ⟨w.heap.size, 0, none⟩) 2 [l, l'] := by
  have hb := alloc_same w (.cells #[.slice q k r, .slice p m d] 24)
  have hh : (w.alloc (.cells #[.slice q k r, .slice p m d] 24)).heap[w.heap.size]? = some (.cells #[.slice q k r, .slice p m d] 24 (0, 0)) := heap_alloc_new w _
  obtain ⟨c0, c1, -⟩ := two_cells hh
  refine ⟨rfl, by omega, fun j x hj => ?_⟩
  rcases j with _ | j
  · cases hj
    exact ⟨_, q, k, r, rfl, by rw [addr_zero]; exact c0, h1.same hb, r1⟩
  · rcases j with _ | j
    · cases hj
      exact ⟨_, p, m, d, rfl, by rw [addr_zero]; exact c1, h2.same hb, r2⟩
    · simp at hj
theorem sight_cells {w : World} {g : Nat} {t : TypeId} {a b c d : Value} (h : w.heap[g]? = some (.cells #[a, b, c, d] t (0, 0))) : w.cell? ⟨g, 0, none⟩ = some a ∧ w.cell? ⟨g, 1, none⟩ = some b ∧ w.cell? ⟨g, 2, none⟩ = some c ∧ w.cell? ⟨g, 3, none⟩ = some d ∧ w.frozen? ⟨g, 0, none⟩ = false ∧ w.frozen? ⟨g, 1, none⟩ = false ∧ w.frozen? ⟨g, 2, none⟩ = false ∧ w.frozen? ⟨g, 3, none⟩ = false :=
  ⟨(block_cell h 0).trans rfl, (block_cell h 1).trans rfl, (block_cell h 2).trans rfl, (block_cell h 3).trans rfl, block_frozen h 0, block_frozen h 1, block_frozen h 2, block_frozen h 3⟩
theorem sight_put {w : World} {g : Nat} {t : TypeId} {a b c d : Value} (h : w.heap[g]? = some (.cells #[a, b, c, d] t (0, 0))) (x y z u : Value) :
    (w.setCell ⟨g, 0, none⟩ x).cell? ⟨g, 0, none⟩ = some x ∧ ((w.setCell ⟨g, 0, none⟩ x).setCell ⟨g, 1, none⟩ y).cell? ⟨g, 1, none⟩ = some y ∧ (((w.setCell ⟨g, 0, none⟩ x).setCell ⟨g, 1, none⟩ y).setCell ⟨g, 2, none⟩ z).cell? ⟨g, 2, none⟩ = some z ∧ ((((w.setCell ⟨g, 0, none⟩ x).setCell ⟨g, 1, none⟩ y).setCell ⟨g, 2, none⟩ z).setCell ⟨g, 3, none⟩ u).heap[g]? = some (.cells #[x, y, z, u] t (0, 0)) := by
  have h1 := heap_setCell_same w g 0 _ _ x h
  have h2 := heap_setCell_same _ g 1 _ _ y h1
  have h3 := heap_setCell_same _ g 2 _ _ z h2
  have h4 := heap_setCell_same _ g 3 _ _ u h3
  exact ⟨(block_cell h1 0).trans rfl, (block_cell h2 1).trans rfl, (block_cell h3 2).trans rfl, h4⟩
theorem sight_inside (w : World) (g : Nat) (x y z u : Value) : Inside g (g + 1) w ((((w.setCell ⟨g, 0, none⟩ x).setCell ⟨g, 1, none⟩ y).setCell ⟨g, 2, none⟩ z).setCell ⟨g, 3, none⟩ u) := (((set_inside w g 0 x).trans (set_inside _ g 1 y)).trans (set_inside _ g 2 z)).trans (set_inside _ g 3 u)
set_option maxHeartbeats 4000000 in
set_option maxRecDepth 100000 in
theorem transcript_any {w : World} {a b p : Option Addr} {n c m d k r : Nat} {x : Hel} {y : Ans} (h : HelW w (.agg #[.slice a n c, .slice b m d]) x) (h' : AnsW w (.agg #[.int .i64 y.ver, .slice p k r]) y) :
    Calls Tryz.prog 91 #[.agg #[.slice a n c, .slice b m d, .int .i64 y.ver, .slice p k r]] w (fun e w' => ∃ (q : Option Addr) (c9 : Nat), e = .returned (.slice q 2 c9) ∧ Rws w' q 2 [helB x, ansB y] ∧ Below w.heap.size w w') := by
  have hB0 := alloc_same w (.cells #[.slice a n c, .slice b m d, .int .i64 y.ver, .slice p k r] 79)
  have hX : (w.alloc (.cells #[.slice a n c, .slice b m d, .int .i64 y.ver, .slice p k r] 79)).heap[w.heap.size]? = some (.cells #[.slice a n c, .slice b m d, .int .i64 y.ver, .slice p k r] 79 (0, 0)) := heap_alloc_new w _
  have CX := Lib.hid (sight_cells hX)
  have H := Lib.hid (h.same hB0)
  have HA := Lib.hid (h'.same hB0)
  have HB := Lib.hid hB0
  clear h h' hX hB0
  go_enter Tryz.func91, Tryz.ntmps91
  go_wp2_with fail
  generalize w.alloc (.cells #[.slice a n c, .slice b m d, .int .i64 y.ver, .slice p k r] 79) = W0 at *
  have HBd : Hid (Below W0.heap.size W0 W0.drew) := Lib.hid (Below.refl _ _).drew
  refine wp_region_held_drew (S := fun w9 => w9.cell? ⟨w.heap.size, 0, none⟩ = some (.slice a n c) ∧ w9.cell? ⟨w.heap.size, 1, none⟩ = some (.slice b m d) ∧ w9.cell? ⟨w.heap.size, 2, none⟩ = some (.int .i64 y.ver) ∧ w9.cell? ⟨w.heap.size, 3, none⟩ = some (.slice p k r)) (by kernel_rfl) ⟨cell_stay CX.out.1 HBd.out, cell_stay CX.out.2.1 HBd.out, cell_stay CX.out.2.2.1 HBd.out, cell_stay CX.out.2.2.2.1 HBd.out⟩ (fun hHeld => ?_)
  refine wpAnyH_take (i := 0) (v := ?v1) (by simp only [List.getElem?_toArray, List.getElem?_cons_succ, List.getElem?_cons_zero]; rfl) (by kernel_rfl) (by kernel_rfl) (by kernel_rfl) (by exact fun _ _ _ h => h) (Or.inl ⟨by rfl, fun w9 hS9 => ?hy1⟩) hHeld ?rest1
  case hy1 =>
    dsimp only at hS9
    obtain ⟨y0, y1, y2, y3⟩ := hS9
    go_simp
    try with_reducible rfl
  try simp only [Act.put, List.setIfInBounds_toArray, List.set_cons_zero, List.set_cons_succ]
  refine wpAnyH_take (i := 1) (v := ?v2) (by simp only [List.getElem?_toArray, List.getElem?_cons_succ, List.getElem?_cons_zero]; rfl) (by kernel_rfl) (by kernel_rfl) (by kernel_rfl) (by exact fun _ _ _ h => h) (Or.inl ⟨by rfl, fun w9 hS9 => ?hy2⟩) hHeld ?rest2
  case hy2 =>
    dsimp only at hS9
    obtain ⟨y0, y1, y2, y3⟩ := hS9
    go_simp
    try with_reducible rfl
  try simp only [Act.put, List.setIfInBounds_toArray, List.set_cons_zero, List.set_cons_succ]
  refine wpAnyH_take (i := 3) (v := ?v3) (by simp only [List.getElem?_toArray, List.getElem?_cons_succ, List.getElem?_cons_zero]; rfl) (by kernel_rfl) (by kernel_rfl) (by kernel_rfl) (by exact fun _ _ _ h => h) (Or.inl ⟨by rfl, fun w9 hS9 => ?hy3⟩) hHeld ?rest3
  case hy3 =>
    dsimp only at hS9
    obtain ⟨y0, y1, y2, y3⟩ := hS9
    go_simp
    try with_reducible rfl
  try simp only [Act.put, List.setIfInBounds_toArray, List.set_cons_zero, List.set_cons_succ]
  refine wpAnyH_take (i := 4) (v := ?v4) (by simp only [List.getElem?_toArray, List.getElem?_cons_succ, List.getElem?_cons_zero]; rfl) (by kernel_rfl) (by kernel_rfl) (by kernel_rfl) (by exact fun _ _ _ h => h) (Or.inl ⟨by rfl, fun w9 hS9 => ?hy4⟩) hHeld ?rest4
  case hy4 =>
    dsimp only at hS9
    obtain ⟨y0, y1, y2, y3⟩ := hS9
    go_simp
    try with_reducible rfl
  try simp only [Act.put, List.setIfInBounds_toArray, List.set_cons_zero, List.set_cons_succ]
  refine wpAnyH_ready (rs := [2]) (by kernel_rfl) (by simp) (AllReadyH.cons (by simp only [List.getElem?_toArray, List.getElem?_cons_succ, List.getElem?_cons_zero]; rfl) (fun K hK => ?_) AllReadyH.nil)
  go_simp
  refine (helloBytes_any (H.out.same HBd.out)).mono ?_
  rintro e2 w2 ⟨q2, k2, r2, rfl, ho2, hb⟩
  have HB2 : Hid (Below W0.heap.size W0 w2) := Lib.hid (HBd.out.trans hb)
  have HO2 := Lib.hid (And.intro ho2.nums ho2.room)
  obtain rfl : k2 = (helB x).length := ho2.len.symm
  clear ho2 hb
  go_wp2_with fail
  refine hK.out _ _ ⟨cell_stay CX.out.1 HB2.out, cell_stay CX.out.2.1 HB2.out, cell_stay CX.out.2.2.1 HB2.out, cell_stay CX.out.2.2.2.1 HB2.out⟩ (fun hHeld => ?_)
  clear hK K
  try simp only [Act.put, List.setIfInBounds_toArray, List.set_cons_zero, List.set_cons_succ]
  refine wpAnyH_ready (rs := [5]) (by kernel_rfl) (by simp) (AllReadyH.cons (by simp only [List.getElem?_toArray, List.getElem?_cons_succ, List.getElem?_cons_zero]; rfl) (fun K hK => ?_) AllReadyH.nil)
  go_simp
  refine (answerBytes_any (HA.out.same HB2.out)).mono ?_
  rintro e5 w5 ⟨q5, k5, r5, rfl, ho5, hb⟩
  have HB5 : Hid (Below W0.heap.size W0 w5) := Lib.hid (HB2.out.trans (hb.mono HB2.out.size))
  have HR := Lib.hid (rws_two (HO2.out.1.same hb) ho5.nums HO2.out.2 ho5.room)
  have HAL := Lib.hid (alloc_same w5 (.cells #[.slice q2 (helB x).length r2, .slice q5 k5 r5] 24))
  have HB6 : Hid (Below W0.heap.size W0 (w5.alloc (.cells #[.slice q2 (helB x).length r2, .slice q5 k5 r5] 24))) := Lib.hid (HB5.out.trans (HAL.out.mono HB5.out.size))
  clear ho5 hb
  go_wp2_with fail
  refine hK.out _ _ ⟨cell_stay CX.out.1 HB5.out, cell_stay CX.out.2.1 HB5.out, cell_stay CX.out.2.2.1 HB5.out, cell_stay CX.out.2.2.2.1 HB5.out⟩ (fun hHeld => ?_)
  clear hK K
  try simp only [Act.put, List.setIfInBounds_toArray, List.set_cons_zero, List.set_cons_succ]
  refine wpAnyH_ready (rs := [6]) (by kernel_rfl) (by simp) (AllReadyH.cons (by simp only [List.getElem?_toArray, List.getElem?_cons_succ, List.getElem?_cons_zero]; rfl) (fun K hK => ?_) AllReadyH.nil)
  go_simp
  refine hK.out _ _ ⟨cell_stay CX.out.1 HB6.out, cell_stay CX.out.2.1 HB6.out, cell_stay CX.out.2.2.1 HB6.out, cell_stay CX.out.2.2.2.1 HB6.out⟩ (fun hHeld => ?_)
  clear hK K
  try simp only [Act.put, List.setIfInBounds_toArray, List.set_cons_zero, List.set_cons_succ]
  refine wpAnyH_take (i := 7) (v := ?v5) (by simp only [List.getElem?_toArray, List.getElem?_cons_succ, List.getElem?_cons_zero]; rfl) (by kernel_rfl) (by kernel_rfl) (by kernel_rfl) (by exact fun _ _ _ h => h) (Or.inl ⟨by rfl, fun w9 hS9 => ?hy5⟩) hHeld ?rest5
  case hy5 =>
    dsimp only at hS9
    obtain ⟨y0, y1, y2, y3⟩ := hS9
    go_simp
    try with_reducible rfl
  try simp only [Act.put, List.setIfInBounds_toArray, List.set_cons_zero, List.set_cons_succ]
  refine wpAnyH_done (by kernel_rfl) ?_ _
  go_wp2_with fail
  go_ret
  exact ⟨_, _, rfl, HR.out, HB.out.trans (HB6.out.mono HB.out.size)⟩
set_option maxHeartbeats 4000000 in
set_option maxRecDepth 100000 in
theorem dealOf_any (key : Int) {w : World} {a b p a2 b2 p2 : Option Addr} {n c m d k r n2 c2 m2 d2 k2 r2 : Nat} {x x2 : Hel} {y y2 : Ans} (h : HelW w (.agg #[.slice a n c, .slice b m d]) x) (h' : AnsW w (.agg #[.int .i64 y.ver, .slice p k r]) y) (g : HelW w (.agg #[.slice a2 n2 c2, .slice b2 m2 d2]) x2) (g' : AnsW w (.agg #[.int .i64 y2.ver, .slice p2 k2 r2]) y2) (hy : isA y = true) :
    Calls Tryz.prog 47 #[.int .i64 key, .agg #[.slice a n c, .slice b m d, .int .i64 y.ver, .slice p k r], .agg #[.slice a2 n2 c2, .slice b2 m2 d2, .int .i64 y2.ver, .slice p2 k2 r2]] w (MadeDl w.heap.size (dealP key x x2 y2 y) w) := by
  obtain ⟨hsz, hX, hY, hR, hB0⟩ := threeH w #[.slice a n c, .slice b m d, .int .i64 y.ver, .slice p k r] #[.slice a2 n2 c2, .slice b2 m2 d2, .int .i64 y2.ver, .slice p2 k2 r2] #[.bool false, .int .i64 0, .slice none 0 0] 79 79 32
  have HX := Lib.hid hX
  have HY := Lib.hid hY
  have HR := Lib.hid hR
  have HB := Lib.hid hB0
  have H := Lib.hid (And.intro (h.same hB0) (h'.same hB0))
  have HT := Lib.hid (transcript_any (g.same hB0) (g'.same hB0))
  have HF := Lib.hid (isA_few hy)
  have hlen : ∀ (X : Hel) (Y : Ans), ∀ l ∈ [helB X, ansB Y], l.length ≤ 1000000000 := fun X Y l hl => by
    have h1 := helB_few X
    have h2 := ansB_few Y
    rcases List.mem_cons.1 hl with rfl | hl
    · omega
    · obtain rfl := List.mem_singleton.1 hl
      omega
  have HL := Lib.hid hlen
  clear h h' g g' hX hY hR hB0 hlen
  obtain ⟨y0, y1, y2c, y3, -⟩ := sight_cells HY.out
  unfold MadeDl
  go_enter Tryz.func47, Tryz.ntmps47
  go_wp2_with fail
  generalize (((w.alloc (.cells #[.slice a n c, .slice b m d, .int .i64 y.ver, .slice p k r] 79)).alloc (.cells #[.slice a2 n2 c2, .slice b2 m2 d2, .int .i64 y2.ver, .slice p2 k2 r2] 79)).alloc (.cells #[.bool false, .int .i64 0, .slice none 0 0] 32)) = W0 at *
  refine HT.out.mono ?_
  rintro e1 w1 ⟨q1, c1, rfl, hR1, hb1⟩
  have HB1 := Lib.hid hb1
  have KF := Lib.hid (finishOf_any key 1 (c := c1) hR1 (HL.out _ _))
  clear hR1 hb1 HT y0 y1 y2c y3
  go_wp2_with fail
  refine KF.out.mono ?_
  rintro e2 w2 ⟨rfl, hb2⟩
  have HB2 : Hid (Below W0.heap.size W0 w2) := Lib.hid (HB1.out.trans (hb2.mono HB1.out.size))
  have HX2 := Lib.hid ((HB2.out.block w.heap.size (by omega)).trans HX.out)
  have KH := Lib.hid (fitsHello_any (H.out.1.same HB2.out) (H.out.2.same HB2.out))
  obtain ⟨f, hf⟩ : ∃ f, finP key [helB x2, ansB y2] 1 = f := ⟨_, rfl⟩
  have HE0 : Hid (∀ o, fitsA x y = o → o = false → dealP key x x2 y2 y = noD) := Lib.hid (fun o h1 h2 => if_neg (fun q => by rw [h1, h2] at q; cases q.1))
  have HE1 : Hid (chkP key [helB x, ansB y] 1 f = false → dealP key x x2 y2 y = noD) := Lib.hid (fun h1 => if_neg (fun q => by rw [hf, h1] at q; cases q.2))
  have HE2 : Hid (fitsA x y = true → chkP key [helB x, ansB y] 1 f = true → dealP key x x2 y2 y = ⟨true, y.ver, tagsX y.exts⟩) := Lib.hid (fun h1 h2 => if_pos ⟨h1, by rw [hf]; exact h2⟩)
  rw [hf]
  obtain ⟨x0, x1, x2c, x3, -⟩ := sight_cells HX2.out
  clear hb2 KF hf
  cases hfit : fitsA x y with
  | false =>
    rw [hfit] at KH
    have HE := Lib.hid (HE0.out _ hfit rfl)
    clear hfit
    go_wp2_with fail
    refine KH.out.mono ?_
    rintro e3 w3 ⟨rfl, hb3⟩
    have HB3 : Hid (Below W0.heap.size W0 w3) := Lib.hid (HB2.out.trans (hb3.mono HB2.out.size))
    have HR3 := Lib.hid ((HB3.out.block (w.heap.size + 2) (by omega)).trans HR.out)
    clear hb3 x0 x1 x2c x3
    obtain ⟨m0, m1, m2, q0, q1, q2⟩ := deal_cells HR3.out
    obtain ⟨z0, z1, z2, -⟩ := deal_put HR3.out (.bool false) (.int .i64 0) (.slice none 0 0)
    have hin := deal_inside w3 (w.heap.size + 2) (.bool false) (.int .i64 0) (.slice none 0 0)
    go_wp2_with fail
    (try simp only [Exit.inBlock, Exit.then])
    refine bodyPost_ret (by simp [results, Tryz.results47, go_sem, z0, z1, z2]; try rfl) rfl ?_
    rw [HE.out]
    exact ⟨_, rfl, no_dl (by have := HB3.out.size; simp; omega), hin.to (HB.out.trans (HB3.out.mono HB.out.size)) (by omega) (by have := HB3.out.size; omega)⟩
  | true =>
    rw [hfit] at KH
    have HFT := Lib.hid hfit
    clear hfit
    go_wp2_with fail
    refine KH.out.mono ?_
    rintro e3 w3 ⟨rfl, hb3⟩
    have HB3 : Hid (Below W0.heap.size W0 w3) := Lib.hid (HB2.out.trans (hb3.mono HB2.out.size))
    have HX3 := Lib.hid ((HB3.out.block w.heap.size (by omega)).trans HX.out)
    have HT := Lib.hid (transcript_any (H.out.1.same HB3.out) (H.out.2.same HB3.out))
    clear hb3 x0 x1 x2c x3
    obtain ⟨x0, x1, x2c, x3, -⟩ := sight_cells HX3.out
    go_wp2_with fail
    refine HT.out.mono ?_
    rintro e4 w4 ⟨q4, c4, rfl, hR4, hb4⟩
    have HB4 : Hid (Below W0.heap.size W0 w4) := Lib.hid (HB3.out.trans (hb4.mono HB3.out.size))
    have KC := Lib.hid (checksOut_any key 1 f (c := c4) hR4 (HL.out _ _))
    clear hR4 hb4 HT x0 x1 x2c x3
    cases hc : chkP key [helB x, ansB y] 1 f with
    | false =>
      rw [hc] at KC
      have HE := Lib.hid (HE1.out hc)
      clear hc
      go_wp2_with fail
      refine KC.out.mono ?_
      rintro e5 w5 ⟨rfl, hb5⟩
      have HB5 : Hid (Below W0.heap.size W0 w5) := Lib.hid (HB4.out.trans (hb5.mono HB4.out.size))
      have HR5 := Lib.hid ((HB5.out.block (w.heap.size + 2) (by omega)).trans HR.out)
      clear hb5
      obtain ⟨m0, m1, m2, q0, q1, q2⟩ := deal_cells HR5.out
      obtain ⟨z0, z1, z2, -⟩ := deal_put HR5.out (.bool false) (.int .i64 0) (.slice none 0 0)
      have hin := deal_inside w5 (w.heap.size + 2) (.bool false) (.int .i64 0) (.slice none 0 0)
      go_wp2_with fail
      (try simp only [Exit.inBlock, Exit.then])
      refine bodyPost_ret (by simp [results, Tryz.results47, go_sem, z0, z1, z2]; try rfl) rfl ?_
      rw [HE.out]
      exact ⟨_, rfl, no_dl (by have := HB5.out.size; simp; omega), hin.to (HB.out.trans (HB5.out.mono HB.out.size)) (by omega) (by have := HB5.out.size; omega)⟩
    | true =>
      rw [hc] at KC
      have HE := Lib.hid (HE2.out HFT.out hc)
      clear hc
      go_wp2_with fail
      refine KC.out.mono ?_
      rintro e5 w5 ⟨rfl, hb5⟩
      have HB5 : Hid (Below W0.heap.size W0 w5) := Lib.hid (HB4.out.trans (hb5.mono HB4.out.size))
      have HR5 := Lib.hid ((HB5.out.block (w.heap.size + 2) (by omega)).trans HR.out)
      have HX5 := Lib.hid ((HB5.out.block w.heap.size (by omega)).trans HX.out)
      have CX := Lib.hid (sight_cells HX5.out)
      clear hb5
      obtain ⟨b9, m9, d9, heq, hvv, hrr⟩ := H.out.2
      obtain ⟨rfl, rfl, rfl⟩ : p = b9 ∧ k = m9 ∧ r = d9 := by simpa using heq
      have HVV := Lib.hid (hvv.same HB5.out)
      have hkl := hvv.len
      clear heq hvv hrr
      go_wp2_with fail
      have HBd : Hid (Below w5.heap.size w5 w5.drew) := Lib.hid (Below.refl _ _).drew
      refine wp_region_held_drew (S := fun w9 => w9.cell? ⟨w.heap.size, 0, none⟩ = some (.slice a n c) ∧ w9.cell? ⟨w.heap.size, 1, none⟩ = some (.slice b m d) ∧ w9.cell? ⟨w.heap.size, 2, none⟩ = some (.int .i64 y.ver) ∧ w9.cell? ⟨w.heap.size, 3, none⟩ = some (.slice p k r)) (by kernel_rfl) ⟨(cell_stay CX.out.1 HBd.out), (cell_stay CX.out.2.1 HBd.out), (cell_stay CX.out.2.2.1 HBd.out), (cell_stay CX.out.2.2.2.1 HBd.out)⟩ (fun hHeld => ?_)
      refine wpAnyH_take (i := 0) (v := ?v6) (by simp only [List.getElem?_toArray, List.getElem?_cons_succ, List.getElem?_cons_zero]; rfl) (by kernel_rfl) (by kernel_rfl) (by kernel_rfl) (by exact fun _ _ _ h => h) (Or.inl ⟨by rfl, fun w9 hS9 => ?hy6⟩) hHeld ?rest6
      case hy6 =>
        dsimp only at hS9
        obtain ⟨y0, y1, y2c, y3⟩ := hS9
        go_simp
        try with_reducible rfl
      try simp only [Act.put, List.setIfInBounds_toArray, List.set_cons_zero, List.set_cons_succ]
      refine wpAnyH_take (i := 1) (v := ?v7) (by simp only [List.getElem?_toArray, List.getElem?_cons_succ, List.getElem?_cons_zero]; rfl) (by kernel_rfl) (by kernel_rfl) (by kernel_rfl) (by exact fun _ _ _ h => h) (Or.inl ⟨by rfl, fun w9 hS9 => ?hy7⟩) hHeld ?rest7
      case hy7 =>
        dsimp only at hS9
        obtain ⟨y0, y1, y2c, y3⟩ := hS9
        go_simp
        try with_reducible rfl
      try simp only [Act.put, List.setIfInBounds_toArray, List.set_cons_zero, List.set_cons_succ]
      refine wpAnyH_take (i := 2) (v := ?v8) (by simp only [List.getElem?_toArray, List.getElem?_cons_succ, List.getElem?_cons_zero]; rfl) (by kernel_rfl) (by kernel_rfl) (by kernel_rfl) (by exact fun _ _ _ h => h) (Or.inl ⟨by rfl, fun w9 hS9 => ?hy8⟩) hHeld ?rest8
      case hy8 =>
        dsimp only at hS9
        obtain ⟨y0, y1, y2c, y3⟩ := hS9
        go_simp
        try with_reducible rfl
      try simp only [Act.put, List.setIfInBounds_toArray, List.set_cons_zero, List.set_cons_succ]
      refine wpAnyH_take (i := 3) (v := ?v9) (by simp only [List.getElem?_toArray, List.getElem?_cons_succ, List.getElem?_cons_zero]; rfl) (by kernel_rfl) (by kernel_rfl) (by kernel_rfl) (by exact fun _ _ _ h => h) (Or.inl ⟨by rfl, fun w9 hS9 => ?hy9⟩) hHeld ?rest9
      case hy9 =>
        dsimp only at hS9
        obtain ⟨y0, y1, y2c, y3⟩ := hS9
        go_simp
        try with_reducible rfl
      try simp only [Act.put, List.setIfInBounds_toArray, List.set_cons_zero, List.set_cons_succ]
      refine wpAnyH_take (i := 4) (v := ?v10) (by simp only [List.getElem?_toArray, List.getElem?_cons_succ, List.getElem?_cons_zero]; rfl) (by kernel_rfl) (by kernel_rfl) (by kernel_rfl) (by exact fun _ _ _ h => h) (Or.inl ⟨by rfl, fun w9 hS9 => ?hy10⟩) hHeld ?rest10
      case hy10 =>
        dsimp only at hS9
        obtain ⟨y0, y1, y2c, y3⟩ := hS9
        go_simp
        try with_reducible rfl
      try simp only [Act.put, List.setIfInBounds_toArray, List.set_cons_zero, List.set_cons_succ]
      refine wpAnyH_take (i := 5) (v := ?v11) (by simp only [List.getElem?_toArray, List.getElem?_cons_succ, List.getElem?_cons_zero]; rfl) (by kernel_rfl) (by kernel_rfl) (by kernel_rfl) (by exact fun _ _ _ h => h) (Or.inl ⟨by rfl, fun w9 hS9 => ?hy11⟩) hHeld ?rest11
      case hy11 =>
        dsimp only at hS9
        obtain ⟨y0, y1, y2c, y3⟩ := hS9
        go_simp
        try with_reducible rfl
      try simp only [Act.put, List.setIfInBounds_toArray, List.set_cons_zero, List.set_cons_succ]
      refine wpAnyH_ready (rs := [6]) (by kernel_rfl) (by simp) (AllReadyH.cons (by simp only [List.getElem?_toArray, List.getElem?_cons_succ, List.getElem?_cons_zero]; rfl) (fun K hK => ?_) AllReadyH.nil)
      go_simp
      refine (tagsOf_any (c := r) (HVV.out.same HBd.out) (by have := HF.out.1; omega)).mono ?_
      rintro e6 w6 ⟨q6, k6, r6, rfl, ho6, hb⟩
      have HB6 : Hid (Below w5.heap.size w5 w6) := Lib.hid (HBd.out.trans hb)
      have HB7 : Hid (Below W0.heap.size W0 w6) := Lib.hid (HB5.out.trans (HB6.out.mono HB5.out.size))
      have HR6 := Lib.hid ((HB7.out.block (w.heap.size + 2) (by omega)).trans HR.out)
      have HO6 := Lib.hid ho6
      have HS6 : Hid (Span q6 w5.heap.size w6.heap.size) := Lib.hid ho6.span
      clear ho6 hb
      go_wp2_with fail
      refine hK.out _ _ ⟨(cell_stay CX.out.1 HB6.out), (cell_stay CX.out.2.1 HB6.out), (cell_stay CX.out.2.2.1 HB6.out), (cell_stay CX.out.2.2.2.1 HB6.out)⟩ (fun hHeld => ?_)
      clear hK K
      try simp only [Act.put, List.setIfInBounds_toArray, List.set_cons_zero, List.set_cons_succ]
      refine wpAnyH_take (i := 7) (v := ?v12) (by simp only [List.getElem?_toArray, List.getElem?_cons_succ, List.getElem?_cons_zero]; rfl) (by kernel_rfl) (by kernel_rfl) (by kernel_rfl) (by exact fun _ _ _ h => h) (Or.inl ⟨by rfl, fun w9 hS9 => ?hy12⟩) hHeld ?rest12
      case hy12 =>
        dsimp only at hS9
        obtain ⟨y0, y1, y2c, y3⟩ := hS9
        go_simp
        try with_reducible rfl
      try simp only [Act.put, List.setIfInBounds_toArray, List.set_cons_zero, List.set_cons_succ]
      refine wpAnyH_ready (rs := [8]) (by kernel_rfl) (by simp) (AllReadyH.cons (by simp only [List.getElem?_toArray, List.getElem?_cons_succ, List.getElem?_cons_zero]; rfl) (fun K hK => ?_) AllReadyH.nil)
      obtain ⟨m0, m1, m2, q0, q1c, q2c⟩ := deal_cells HR6.out
      obtain ⟨z0, z1, z2, -⟩ := deal_put HR6.out (.bool true) (.int .i64 y.ver) (.slice q6 k6 r6)
      have hin := deal_inside w6 (w.heap.size + 2) (.bool true) (.int .i64 y.ver) (.slice q6 k6 r6)
      have hgr : w6.grownBy (((w6.setCell ⟨w.heap.size + 2, 0, none⟩ (.bool true)).setCell ⟨w.heap.size + 2, 1, none⟩ (.int .i64 y.ver)).setCell ⟨w.heap.size + 2, 2, none⟩ (.slice q6 k6 r6)) (some (w.heap.size + 2)) := ((set_grown w6 (w.heap.size + 2) 0 _).trans (set_grown _ (w.heap.size + 2) 1 _)).trans (set_grown _ (w.heap.size + 2) 2 _)
      go_simp
      refine hK.out _ _ ⟨(cell_off (cell_stay CX.out.1 HB6.out) hgr (by simp)), (cell_off (cell_stay CX.out.2.1 HB6.out) hgr (by simp)), (cell_off (cell_stay CX.out.2.2.1 HB6.out) hgr (by simp)), (cell_off (cell_stay CX.out.2.2.2.1 HB6.out) hgr (by simp))⟩ (fun hHeld => ?_)
      clear hK K
      try simp only [Act.put, List.setIfInBounds_toArray, List.set_cons_zero, List.set_cons_succ]
      refine wpAnyH_done (by kernel_rfl) ?_ _
      go_wp2_with fail
      (try simp only [Exit.inBlock, Exit.then])
      refine bodyPost_ret (by simp [results, Tryz.results47, go_sem, z0, z1, z2]; try rfl) rfl ?_
      rw [HE.out]
      have hs5 : W0.heap.size ≤ w5.heap.size := HB5.out.size
      have hs6 : W0.heap.size ≤ w6.heap.size := HB7.out.size
      exact ⟨_, rfl, own_dl (lo := w5.heap.size) (hi := w6.heap.size) (HO6.out.aside hin HS6.out (by omega)) HS6.out (by omega) (by simp) (Nat.le_refl _), hin.to (HB.out.trans (HB7.out.mono HB.out.size)) (by omega) (by omega)⟩
end Go.Proofs.YtcmjadfpifpknaaGreat
namespace Go.Proofs.YtcmjadfpifpknaaGreat
open Go.ChangeShapes Go.WideShapes Go.ChangeAt Go.RowKit
set_option linter.unusedVariables false
set_option linter.unusedSimpArgs false

set_option maxHeartbeats 4000000 in
set_option maxRecDepth 100000 in
theorem editAllH_any {w : World} {v : Value} {x : Hel} {ea : Option Addr} {en ec : Nat} {es : List Et} (lo : Nat) (hlo : lo ≤ w.heap.size) (hs : ∃ w9, HelW w9 v x) (h : ∀ w9, Inside lo w.heap.size w w9 → HelW w9 v x) (he : Ets w ea en es) (hes : ∀ e ∈ es, e.wf) (hx : isH x = true) :
    Calls Tryz.prog 44 #[v, .slice ea en ec, .func (.func 18) #[] #[]] w (fun e w' => ∃ v', e = .returned v' ∧ (∀ w9, Inside lo w.heap.size w' w9 → HelW w9 v' (edHs x es)) ∧ Below w.heap.size w w') := by
  have hel := he.len
  have hef := he.fits
  have H := Lib.hid he
  have HE := Lib.hid hes
  have HI := Lib.hid (fun j => isH_few (edHs_is hx (es.take j)))
  obtain ⟨a, n, c, b, m, d, rfl⟩ := hs.choose_spec.shape
  obtain ⟨hsz, hX, hR, hB0⟩ := two w #[.slice a n c, .slice b m d] #[.slice none 0 0, .slice none 0 0] 27 27
  have HX := Lib.hid hX
  have HR := Lib.hid hR
  have HB := Lib.hid hB0
  have HV := Lib.hid (fun w9 (h9 : Inside lo (w.heap.size + 2) ((w.alloc (.cells #[.slice a n c, .slice b m d] 27)).alloc (.cells #[.slice none 0 0, .slice none 0 0] 27)) w9) => h w9 ⟨h9.os.trans hB0.os, h9.tape.trans hB0.tape, h9.output.trans hB0.output, Nat.le_trans hB0.size h9.size, fun k hk hd => (h9.block k (by omega) (by omega)).trans (hB0.block k hk)⟩)
  clear h hs he hes hX hR hB0 hx
  go_enter Tryz.func44, Tryz.ntmps44
  go_wp2_with fail
  generalize ((w.alloc (.cells #[.slice a n c, .slice b m d] 27)).alloc (.cells #[.slice none 0 0, .slice none 0 0] 27)) = W0 at *
  go_loopw [11] (fun i wr => ∃ j : Nat, j ≤ en ∧ i = .int .i64 j ∧ ∃ (a : Option Addr) (n c : Nat) (b : Option Addr) (m d : Nat), wr.heap[w.heap.size]? = some (.cells #[.slice a n c, .slice b m d] 27 (0, 0)) ∧ (∀ w9, Inside lo (w.heap.size + 2) wr w9 → HelW w9 (.agg #[.slice a n c, .slice b m d]) (edHs x (es.take j))) ∧ wr.heap[w.heap.size + 1]? = some (.cells #[.slice none 0 0, .slice none 0 0] 27 (0, 0)) ∧ Below w.heap.size w wr) (fun i _ => en - (intOf i).toNat)
  case atStart => exact ⟨0, Nat.zero_le _, rfl, a, n, c, b, m, d, HX.out, HV.out, HR.out, HB.out⟩
  case round =>
    obtain ⟨j, hj, rfl, a, n, c, b, m, d, hx, hv, hr, hb⟩ := hrel
    have HX1 := Lib.hid hx
    have HV1 := Lib.hid hv
    have HR1 := Lib.hid hr
    have HB1 := Lib.hid hb
    have hs1 := box_lt hr
    clear hx hv hr hb
    by_cases hlt : j < en
    · obtain ⟨eb, eo, ed, rfl, hed, hc0, hc1⟩ := ets_at (H.out.same HB1.out) hlt
      have hwf := HE.out ed (List.mem_of_getElem? hed)
      obtain ⟨hf1, hf2, hf3⟩ := HI.out j
      have HA := Lib.hid (alloc_same wr (.cells #[.int .i64 ed.kind, .int .i64 ed.n] 40))
      have hsA : wr.heap.size < (wr.alloc (.cells #[.int .i64 ed.kind, .int .i64 ed.n] 40)).heap.size := by simp
      obtain ⟨x0, x1, -⟩ := two_cells ((HA.out.block w.heap.size (by omega)).trans HX1.out)
      have KE := Lib.hid (editHello_any (e := ed) (HV1.out _ (Inside.after HA.out (Inside.refl _ _ _))) hwf.1 (by omega) (by omega) (by omega))
      have HS : Hid (edHs x (es.take (j + 1)) = edH (edHs x (es.take j)) ed) := Lib.hid (edHs_step hed)
      clear hed
      go_wp2_with fail
      generalize wr.alloc (.cells #[.int .i64 ed.kind, .int .i64 ed.n] 40) = W1 at *
      refine KE.out.mono ?_
      rintro e w2 ⟨v2, rfl, ho, hb⟩
      obtain ⟨a2, n2, c2, b2, m2, d2, rfl⟩ := ho.shape
      have hs2 := hb.size
      have HO := Lib.hid ho
      have HX2 := Lib.hid ((hb.block w.heap.size (by omega)).trans ((HA.out.block w.heap.size (by omega)).trans HX1.out))
      have HR2 := Lib.hid ((hb.block (w.heap.size + 1) (by omega)).trans ((HA.out.block (w.heap.size + 1) (by omega)).trans HR1.out))
      have HB2 := Lib.hid (HB1.out.trans ((HA.out.mono HB1.out.size).trans (hb.mono (Nat.le_trans HB1.out.size HA.out.size))))
      clear ho hb KE x0 x1 hc0 hc1
      obtain ⟨x0, x1, f0, f1⟩ := two_cells HX2.out
      obtain ⟨z0, z1, hZ⟩ := two_put HX2.out (.slice a2 n2 c2) (.slice b2 m2 d2)
      have hin : Inside w.heap.size (w.heap.size + 1) w2 ((w2.setCell ⟨w.heap.size, 0, none⟩ (.slice a2 n2 c2)).setCell ⟨w.heap.size, 1, none⟩ (.slice b2 m2 d2)) := (set_inside w2 w.heap.size 0 (.slice a2 n2 c2)).trans (set_inside _ w.heap.size 1 (.slice b2 m2 d2))
      go_wp2_with fail
      go_roundw
      case rel => exact ⟨j + 1, by omega, by go_num, a2, n2, c2, b2, m2, d2, hZ, fun w9 h9 => by rw [HS.out]; exact (HO.out.aside ((hin.wide hlo (by omega)).trans h9) (Or.inl (by omega))).hel, (hin.block (w.heap.size + 1) (by omega) (Or.inr (Nat.le_refl _))).trans HR2.out, hin.to HB2.out (Nat.le_refl _) (by omega)⟩
      case measure => simp [intOf]; omega
    · obtain rfl : j = en := by omega
      obtain ⟨x0, x1, -⟩ := two_cells HX1.out
      obtain ⟨m0, m1, q0, q1⟩ := two_cells HR1.out
      obtain ⟨z0, z1, -⟩ := two_put HR1.out (.slice a n c) (.slice b m d)
      have hall : es.take j = es := List.take_of_length_le (by omega)
      have HV3 := Lib.hid (hall ▸ HV1.out)
      clear hall
      go_wp2_with fail
      (try simp only [Exit.inBlock, Exit.then])
      refine bodyPost_ret (by simp [results, Tryz.results44, go_sem, z0, z1]; try rfl) rfl ?_
      have hgr := set2_grown wr (w.heap.size + 1) (.slice a n c) (.slice b m d)
      exact ⟨_, rfl, fun w9 h9 => HV3.out _ (((one_inside hgr).wide (by omega) (Nat.le_refl _)).trans (h9.wide (Nat.le_refl _) (by omega))), HB1.out.grown hgr (by omega) (fun r e => by cases e; omega)⟩
set_option maxHeartbeats 4000000 in
set_option maxRecDepth 100000 in
theorem editAllA_any {w : World} {v : Value} {x : Ans} {ea : Option Addr} {en ec : Nat} {es : List Et} (lo : Nat) (hlo : lo ≤ w.heap.size) (hs : ∃ w9, AnsW w9 v x) (h : ∀ w9, Inside lo w.heap.size w w9 → AnsW w9 v x) (he : Ets w ea en es) (hes : ∀ e ∈ es, e.wf) (hx : isA x = true) :
    Calls Tryz.prog 46 #[v, .slice ea en ec, .func (.func 20) #[] #[]] w (fun e w' => ∃ v', e = .returned v' ∧ (∀ w9, Inside lo w.heap.size w' w9 → AnsW w9 v' (edAs x es)) ∧ Below w.heap.size w w') := by
  have hel := he.len
  have hef := he.fits
  have H := Lib.hid he
  have HE := Lib.hid hes
  have HI := Lib.hid (fun j => isA_few (edAs_is hx (es.take j)))
  obtain ⟨b, m, d, rfl⟩ := hs.choose_spec.shape
  obtain ⟨hsz, hX, hR, hB0⟩ := two w #[.int .i64 x.ver, .slice b m d] #[.int .i64 0, .slice none 0 0] 44 44
  have HX := Lib.hid hX
  have HR := Lib.hid hR
  have HB := Lib.hid hB0
  have HV := Lib.hid (fun w9 (h9 : Inside lo (w.heap.size + 2) ((w.alloc (.cells #[.int .i64 x.ver, .slice b m d] 44)).alloc (.cells #[.int .i64 0, .slice none 0 0] 44)) w9) => h w9 ⟨h9.os.trans hB0.os, h9.tape.trans hB0.tape, h9.output.trans hB0.output, Nat.le_trans hB0.size h9.size, fun k hk hd => (h9.block k (by omega) (by omega)).trans (hB0.block k hk)⟩)
  clear h hs he hes hX hR hB0 hx
  go_enter Tryz.func46, Tryz.ntmps46
  go_wp2_with fail
  generalize ((w.alloc (.cells #[.int .i64 x.ver, .slice b m d] 44)).alloc (.cells #[.int .i64 0, .slice none 0 0] 44)) = W0 at *
  go_loopw [11] (fun i wr => ∃ j : Nat, j ≤ en ∧ i = .int .i64 j ∧ ∃ (z : Int) (b : Option Addr) (m d : Nat), wr.heap[w.heap.size]? = some (.cells #[.int .i64 z, .slice b m d] 44 (0, 0)) ∧ (∀ w9, Inside lo (w.heap.size + 2) wr w9 → AnsW w9 (.agg #[.int .i64 z, .slice b m d]) (edAs x (es.take j))) ∧ wr.heap[w.heap.size + 1]? = some (.cells #[.int .i64 0, .slice none 0 0] 44 (0, 0)) ∧ Below w.heap.size w wr) (fun i _ => en - (intOf i).toNat)
  case atStart => exact ⟨0, Nat.zero_le _, rfl, x.ver, b, m, d, HX.out, HV.out, HR.out, HB.out⟩
  case round =>
    obtain ⟨j, hj, rfl, z, b, m, d, hx, hv, hr, hb⟩ := hrel
    have HX1 := Lib.hid hx
    have HV1 := Lib.hid hv
    have HR1 := Lib.hid hr
    have HB1 := Lib.hid hb
    have hs1 := box_lt hr
    clear hx hv hr hb
    by_cases hlt : j < en
    · obtain ⟨eb, eo, ed, rfl, hed, hc0, hc1⟩ := ets_at (H.out.same HB1.out) hlt
      have hwf := HE.out ed (List.mem_of_getElem? hed)
      obtain ⟨hf2, hf3⟩ := HI.out j
      have HA := Lib.hid (alloc_same wr (.cells #[.int .i64 ed.kind, .int .i64 ed.n] 40))
      have hsA : wr.heap.size < (wr.alloc (.cells #[.int .i64 ed.kind, .int .i64 ed.n] 40)).heap.size := by simp
      obtain ⟨x0, x1, -⟩ := two_cells ((HA.out.block w.heap.size (by omega)).trans HX1.out)
      have KE := Lib.hid (editAnswer_any (e := ed) (HV1.out _ (Inside.after HA.out (Inside.refl _ _ _))) hwf.1 (by omega) (by omega))
      have HS : Hid (edAs x (es.take (j + 1)) = edA (edAs x (es.take j)) ed) := Lib.hid (edAs_step hed)
      clear hed
      go_wp2_with fail
      generalize wr.alloc (.cells #[.int .i64 ed.kind, .int .i64 ed.n] 40) = W1 at *
      refine KE.out.mono ?_
      rintro e w2 ⟨v2, rfl, ho, hb⟩
      obtain ⟨b2, m2, d2, rfl⟩ := ho.shape
      have hs2 := hb.size
      have HO := Lib.hid ho
      have HX2 := Lib.hid ((hb.block w.heap.size (by omega)).trans ((HA.out.block w.heap.size (by omega)).trans HX1.out))
      have HR2 := Lib.hid ((hb.block (w.heap.size + 1) (by omega)).trans ((HA.out.block (w.heap.size + 1) (by omega)).trans HR1.out))
      have HB2 := Lib.hid (HB1.out.trans ((HA.out.mono HB1.out.size).trans (hb.mono (Nat.le_trans HB1.out.size HA.out.size))))
      clear ho hb KE x0 x1 hc0 hc1
      obtain ⟨x0, x1, f0, f1⟩ := two_cells HX2.out
      obtain ⟨z0, z1, hZ⟩ := two_put HX2.out (.int .i64 (edA (edAs x (es.take j)) ed).ver) (.slice b2 m2 d2)
      have hin : Inside w.heap.size (w.heap.size + 1) w2 ((w2.setCell ⟨w.heap.size, 0, none⟩ (.int .i64 (edA (edAs x (es.take j)) ed).ver)).setCell ⟨w.heap.size, 1, none⟩ (.slice b2 m2 d2)) := (set_inside w2 w.heap.size 0 (.int .i64 (edA (edAs x (es.take j)) ed).ver)).trans (set_inside _ w.heap.size 1 (.slice b2 m2 d2))
      go_wp2_with fail
      go_roundw
      case rel => exact ⟨j + 1, by omega, by go_num, _, b2, m2, d2, hZ, fun w9 h9 => by rw [HS.out]; exact (HO.out.aside ((hin.wide hlo (by omega)).trans h9) (Or.inl (by omega))).ans, (hin.block (w.heap.size + 1) (by omega) (Or.inr (Nat.le_refl _))).trans HR2.out, hin.to HB2.out (Nat.le_refl _) (by omega)⟩
      case measure => simp [intOf]; omega
    · obtain rfl : j = en := by omega
      obtain ⟨x0, x1, -⟩ := two_cells HX1.out
      obtain ⟨m0, m1, q0, q1⟩ := two_cells HR1.out
      obtain ⟨z0, z1, -⟩ := two_put HR1.out (.int .i64 z) (.slice b m d)
      have hall : es.take j = es := List.take_of_length_le (by omega)
      have HV3 := Lib.hid (hall ▸ HV1.out)
      clear hall
      go_wp2_with fail
      (try simp only [Exit.inBlock, Exit.then])
      refine bodyPost_ret (by simp [results, Tryz.results46, go_sem, z0, z1]; try rfl) rfl ?_
      have hgr := set2_grown wr (w.heap.size + 1) (.int .i64 z) (.slice b m d)
      exact ⟨_, rfl, fun w9 h9 => HV3.out _ (((one_inside hgr).wide (by omega) (Nat.le_refl _)).trans (h9.wide (Nat.le_refl _) (by omega))), HB1.out.grown hgr (by omega) (fun r e => by cases e; omega)⟩
end Go.Proofs.YtcmjadfpifpknaaGreat
namespace Go.Proofs.YtcmjadfpifpknaaGreat
open Go.ChangeShapes Go.WideShapes Go.ChangeAt Go.RowKit
set_option linter.unusedVariables false
set_option linter.unusedSimpArgs false

set_option maxHeartbeats 4000000 in
set_option maxRecDepth 100000 in
theorem extsWhereK_any (f : Int → Bool) (P : Nat) {a : Option Addr} {n c : Nat} {l : List Vl} {w : World} (h : Vals w a n l) (hz : ∀ z ∈ tagsX l, (Lit.int .i64 z).wf = true)
    (hA : ∀ (k : Int) (W : World), (Lit.int .i64 k).wf = true → Below w.heap.size w W → Calls Tryz.prog 131 #[.int .i64 k, .pointer (some ⟨P, 0, none⟩)] W (Told (.bool (f k)) W)) (hn : n ≤ 1048576) (hit : itemsOf l ≤ 1048576) :
    Calls Tryz.prog 128 #[.slice a n c, .func (.func 131) #[] #[.pointer (some ⟨P, 0, none⟩)]] w (MadeV 125 3 w.heap.size (whX f l) w) := by
  have H := Lib.hid h
  have hln := Lib.hid h.len
  have HZ := Lib.hid hz
  have HA := Lib.hid hA
  obtain ⟨i0, hi, hz0, hz1, hz2⟩ := info_parts infoExtS
  have HI := Lib.hid (And.intro hi (And.intro hz0 (And.intro hz1 hz2)))
  have HO : Hid (OwnV 125 3 (w.alloc (.cells #[] 125)) w.heap.size (some ⟨w.heap.size, 0, none⟩) 0 0 (whX f (l.take 0))) := Lib.hid (OwnV.empty (Nat.le_refl _))
  clear h hz hA hi hz0 hz1 hz2
  go_enter Tryz.func128, Tryz.ntmps128
  go_wp2_with fail
  go_loopw [5, 11] (fun v i wr => ∃ (j : Nat) (q : Option Addr) (r e : Nat), j ≤ n ∧ i = .int .i64 j ∧ v = .slice q r e ∧ OwnV 125 3 wr w.heap.size q r e (whX f (l.take j)) ∧ Below w.heap.size w wr) (fun _ i _ => n - (intOf i).toNat)
  case atStart => exact ⟨0, _, _, _, Nat.zero_le _, rfl, rfl, HO.out, alloc_same _ _⟩
  case round =>
    obtain ⟨j, q, r, e, hj, rfl, rfl, hown, hb⟩ := hrel
    have HO2 := Lib.hid hown
    have HB2 := Lib.hid hb
    clear hown hb
    by_cases hlt : j < n
    · obtain ⟨bb, o, p, pm, pd, k, y, rfl, hx, hc0, hc1, hN, hr⟩ := (H.out.same HB2.out).at_ hlt
      have hsz := HB2.out.size
      have hym := hN.len
      have hyi := itemsOf_mem hx
      dsimp only at hyi
      have hrl : r ≤ 1048576 := by
        have h1 := HO2.out.len
        have h2 := wh_few f (l.take j)
        rw [List.length_take] at h2
        omega
      have HW : Hid (Below wr.heap.size wr (wr.alloc (.cells #[.int .i64 k, .slice p pm pd] 125))) := Lib.hid (alloc_same _ _)
      have HWc : Hid ((wr.alloc (.cells #[.int .i64 k, .slice p pm pd] 125)).cell? ⟨wr.heap.size, 0, none⟩ = some (.int .i64 k) ∧ (wr.alloc (.cells #[.int .i64 k, .slice p pm pd] 125)).cell? ⟨wr.heap.size, 1, none⟩ = some (.slice p pm pd)) := Lib.hid ⟨block_cell (heap_alloc_new wr _) 0, block_cell (heap_alloc_new wr _) 1⟩
      have hs2 : wr.heap.size ≤ (wr.alloc (.cells #[.int .i64 k, .slice p pm pd] 125)).heap.size := HW.out.size
      have HK := Lib.hid (HA.out k (wr.alloc (.cells #[.int .i64 k, .slice p pm pd] 125)) (HZ.out k (tags_mem hx)) (HB2.out.trans (HW.out.mono hsz)))
      have HNp := Lib.hid hN
      cases hk : f k with
      | true =>
        have HF : Hid (whX f (l.take (j + 1)) = whX f (l.take j) ++ [⟨k, y⟩]) := Lib.hid (wh_yes hx hk)
        rw [hk] at HK
        clear hx hN hk
        go_wp2_with fail
        refine HK.out.mono ?_
        rintro e2 w2 ⟨rfl, hb2⟩
        have HB3 : Hid (Below wr.heap.size wr w2) := Lib.hid (HW.out.trans (hb2.mono hs2))
        have c0 := cell_stay HWc.out.1 hb2
        have c1 := cell_stay HWc.out.2 hb2
        have hs3 := HB3.out.size
        have HC := Lib.hid (copyExt_any k p pm pd y w2 (HNp.out.same HB3.out) (by omega))
        unfold MadeX at HC
        clear hb2 HK
        go_wp2_with fail
        refine HC.out.mono ?_
        rintro e3 w3 ⟨q3, m3, d3, rfl, ho3, hb3⟩
        have HO3 := Lib.hid ho3
        have HB4 := Lib.hid (HB3.out.trans (hb3.mono hs3))
        have hs4 := HB4.out.size
        have HNN : Hid (Items Vh.enc 2 (w3.alloc (.cells #[.int .i64 k, .slice q3 m3 d3] 125)) (some ⟨w3.heap.size, 0, none⟩) 1 [⟨k, q3, m3, d3⟩]) := Lib.hid (items_new Vh.enc_len w3 ⟨k, q3, m3, d3⟩ 125)
        clear hb3 hc0 hc1 ho3 c0 c1
        go_wp2_with (at_builtin; refine wpl_appV (S := wr.heap.size) (B := w.heap.size) _ rfl (.tmp 19) (.tmp 22) 25 rfl 125 3 i0 (.agg #[.int .i64 0, .slice none 0 0]) 32 Tryz.underlying25 HI.out.1 HI.out.2.1 HI.out.2.2.1 HI.out.2.2.2 rfl rfl ((HO2.out.lim.same HB4.out).same (alloc_same _ _)) rfl HNN.out ((HO3.out.lower (by omega)).alloc _) (fun ad e => by have := (HO3.out.span ad e).1; omega) (by omega) ?c4 ?c5 ?_)
        case c4 => omega
        case c5 => simp; omega
        intro a4 c4 w4 ho4 hb4
        have HO4 : Hid (OwnV 125 3 w4 w.heap.size a4 (r + 1) c4 (whX f (l.take (j + 1)))) := Lib.hid (by rw [HF.out]; exact ho4)
        have HB5 : Hid (Below w.heap.size w w4) := Lib.hid ((HB2.out.trans (HB4.out.mono hsz)).trans ((((alloc_same _ _).mono (Nat.le_trans hsz hs4))).trans hb4))
        clear ho4 hb4
        go_wp2_with fail
        go_roundw
        case rel => exact ⟨j + 1, a4, _, c4, by omega, by go_num, rfl, HO4.out, HB5.out⟩
        case measure => simp [intOf]; omega
      | false =>
        have HF : Hid (whX f (l.take (j + 1)) = whX f (l.take j)) := Lib.hid (wh_no hx hk)
        rw [hk] at HK
        clear hx hN hk
        go_wp2_with fail
        refine HK.out.mono ?_
        rintro e2 w2 ⟨rfl, hb2⟩
        have HB3 : Hid (Below wr.heap.size wr w2) := Lib.hid (HW.out.trans (hb2.mono hs2))
        clear hb2 HK
        go_wp2_with fail
        go_roundw
        case rel => exact ⟨j + 1, q, r, e, by omega, by go_num, rfl, by rw [HF.out]; exact HO2.out.same HB3.out, HB2.out.trans (HB3.out.mono hsz)⟩
        case measure => simp [intOf]; omega
    · obtain rfl : j = n := by omega
      go_wp2
      go_ret
      have h1 := HO2.out
      rw [List.take_of_length_le (by rw [hln.out]; omega)] at h1
      exact ⟨_, _, _, rfl, h1, HB2.out⟩
end Go.Proofs.YtcmjadfpifpknaaGreat
