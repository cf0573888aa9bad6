/- Edits of hellos and of answers: by the program. Whether a number is on a list, by the model. Whether a list of extensions is valid, where a tag stands, the tags: by the model. Whether a list of extensions is valid, and its tags: by the model. -/
import Derived.Test.YtcmjadfpifpknaaG19
import Derived.Test.YtcmjadfpifpknaaG11
import Derived.Test.YtcmjadfpifpknaaG1
import Derived.RegionTactic
import Derived.Handy
import Derived.Test.YtcmjadfpifpknaaG9
import Derived.Test.YtcmjadfpifpknaaG4
import Derived.Test.YtcmjadfpifpknaaG10
namespace Go.Proofs.Ytcmjadfpifpknaa
open Go.ChangeShapes Go.WideShapes Go.ChangeAt Go.RowKit
set_option linter.unusedVariables false
set_option linter.unusedSimpArgs false

/-- Three boxes. -/
theorem thrice (w : World) (A B C : Array Value) (t1 t2 t3 : TypeId) :
    w.heap.size + 3 = (((w.alloc (.cells A t1)).alloc (.cells B t2)).alloc (.cells C t3)).heap.size ∧
    (((w.alloc (.cells A t1)).alloc (.cells B t2)).alloc (.cells C t3)).heap[w.heap.size]? = some (.cells A t1 (0, 0)) ∧
    (((w.alloc (.cells A t1)).alloc (.cells B t2)).alloc (.cells C t3)).heap[w.heap.size + 1]? = some (.cells B t2 (0, 0)) ∧
    (((w.alloc (.cells A t1)).alloc (.cells B t2)).alloc (.cells C t3)).heap[w.heap.size + 2]? = some (.cells C t3 (0, 0)) ∧
    Below w.heap.size w (((w.alloc (.cells A t1)).alloc (.cells B t2)).alloc (.cells C t3)) := by
  obtain ⟨h0, h1, h2, h3⟩ := two w A B t1 t2
  have hb := alloc_same ((w.alloc (.cells A t1)).alloc (.cells B t2)) (.cells C t3)
  refine ⟨by simp, (hb.block _ (by omega)).trans h1, (hb.block _ (by omega)).trans h2, ?_, h3.trans (hb.mono h3.size)⟩
  have := heap_alloc_new ((w.alloc (.cells A t1)).alloc (.cells B t2)) (.cells C t3)
  rw [← h0] at this
  exact this
theorem set2_grown (w : World) (g : Nat) (u v : Value) : w.grownBy ((w.setCell ⟨g, 0, none⟩ u).setCell ⟨g, 1, none⟩ v) (some g) := (set_grown w g 0 u).trans (set_grown _ g 1 v)
/-- A hello by value whose lists are the call's own, from B on, the versions first. -/
def FreeH (B : Nat) (w : World) (v : Value) (x : Hel) : Prop :=
  ∃ (a : Option Addr) (n c : Nat) (b : Option Addr) (m d lo hi lo' hi' : Nat), v = .agg #[.slice a n c, .slice b m d] ∧ Own .i64 3 w lo a n c x.vers ∧ OwnVB hi' 64 3 w lo' b m d x.exts ∧ Span a lo hi ∧ B ≤ lo ∧ hi ≤ lo' ∧ hi' ≤ w.heap.size ∧ B ≤ lo' ∧ lo' ≤ w.heap.size ∧ hi ≤ w.heap.size
def FreeA (B : Nat) (w : World) (v : Value) (x : Ans) : Prop :=
  ∃ (b : Option Addr) (m d lo' hi' : Nat), v = .agg #[.int .i64 x.ver, .slice b m d] ∧ OwnVB hi' 64 3 w lo' b m d x.exts ∧ hi' ≤ w.heap.size ∧ B ≤ lo' ∧ lo' ≤ w.heap.size
theorem edH_0 {x : Hel} {e : Et} (h : findE e.kind hedL = none) : edH x e = x := by
  unfold hedL at h
  simp only [findE] at h
  unfold edH
  split at h
  · cases h
  · split at h
    · cases h
    · split at h
      · cases h
      · split at h
        · cases h
        · rename_i h6 h3 h2 h1
          rw [if_neg (fun q => h1 q.symm), if_neg (fun q => h2 q.symm), if_neg (fun q => h3 q.symm), if_neg (fun q => h6 q.symm)]
theorem edA_0 {x : Ans} {e : Et} (h : findE e.kind aedL = none) : edA x e = x := by
  unfold aedL at h
  simp only [findE] at h
  unfold edA
  split at h
  · cases h
  · split at h
    · cases h
    · rename_i h5 h4
      rw [if_neg (fun q => h4 q.symm), if_neg (fun q => h5 q.symm)]
set_option maxHeartbeats 4000000 in
set_option maxRecDepth 100000 in
theorem editedH_1 {B e0 : Nat} {w : World} {v : Value} {x : Hel} {e : Et} (h : FreeH B w v x) (hM : EdMap w e0 hedL) (hw : (Lit.int .i64 e.kind).wf = true) (hn : x.vers.length ≤ 1048576) (hm : x.exts.length ≤ 1048576) (hit : itemsOf x.exts ≤ 1048576) (hk : e.kind = 1) :
    Calls Try.prog 36 #[v, .map (some e0), .agg #[.int .i64 e.kind, .int .i64 e.n]] w (MadeHel B (edH x e) w) := by
  have hed : edH x e = (⟨dropV x.vers e.n, x.exts⟩ : Hel) := by
    unfold edH
    rw [hk]
    rw [if_pos rfl]
  rw [hed]
  obtain ⟨a, n, c, b, m, d, lo, hi, lo', hi', rfl, h1, h2, h3, l1, l2, l3, l4, l5, l6⟩ := h
  obtain ⟨hsz, hX, hE, hR, hB0⟩ := thrice w #[.slice a n c, .slice b m d] #[.int .i64 e.kind, .int .i64 e.n] #[.slice none 0 0, .slice none 0 0] 31 34 31
  have hl := (hM.same hB0).look Try.underlying69 (hedZ _) hw
  have hfe : findE e.kind hedL = some (.func (.func 62) #[] #[]) := by rw [hk]; rfl
  rw [hfe] at hl
  simp only [Option.getD_some, Option.isSome_some] at hl
  clear hfe hk
  have H1 := Lib.hid (h1.same hB0)
  have H2 := Lib.hid (h2.same hB0)
  clear h1 h2
  have HX := Lib.hid hX
  have HR := Lib.hid hR
  have HB := Lib.hid hB0
  obtain ⟨e0c, e1c, -⟩ := two_cells hE
  clear hX hE hR hB0 hM hw
  unfold MadeHel
  go_enter Try.func36, Try.ntmps36
  go_wp2_with fail
  generalize (((w.alloc (.cells #[.slice a n c, .slice b m d] 31)).alloc (.cells #[.int .i64 e.kind, .int .i64 e.n] 34)).alloc (.cells #[.slice none 0 0, .slice none 0 0] 31)) = W0 at *
  refine (dropHelloVersion_any (B := B) (g := w.heap.size) (x := x) e.n ⟨a, n, c, b, m, d, lo, hi, lo', hi', HX.out, H1.out, H2.out, h3, l1, l2, l3, l4, l5, l6⟩ (by omega)).mono ?_
  rintro e2 w2 ⟨a', n', c', b', m', d', rfl, hbox, hst, hfr⟩
  have HI := Lib.hid hfr
  have HS := Lib.hid hst
  have hs2 := hfr.size
  have HR2 := Lib.hid ((hfr.block (w.heap.size + 2) (by omega) (Or.inr (by omega))).trans HR.out)
  have HX2 := Lib.hid hbox
  clear hfr hst hbox hl e0c e1c
  obtain ⟨x0, x1, -⟩ := two_cells HX2.out
  obtain ⟨m0, m1, q0, q1⟩ := two_cells HR2.out
  obtain ⟨z0, z1, -⟩ := two_put HR2.out (.slice a' n' c') (.slice b' m' d')
  go_wp2_with fail
  (try simp only [Exit.inBlock, Exit.then])
  refine bodyPost_ret (by simp [results, Try.results36, go_sem, z0, z1]; try rfl) rfl ?_
  have hgr := set2_grown w2 (w.heap.size + 2) (.slice a' n' c') (.slice b' m' d')
  exact ⟨_, rfl, HS.out _ _ hgr (by omega) (by omega), (HI.out.to (HB.out.mono (by omega)) (Nat.le_refl _) (by omega)).grown hgr (by omega) (fun r e => by cases e; omega)⟩
set_option maxHeartbeats 4000000 in
set_option maxRecDepth 100000 in
theorem editedH_2 {B e0 : Nat} {w : World} {v : Value} {x : Hel} {e : Et} (h : FreeH B w v x) (hM : EdMap w e0 hedL) (hw : (Lit.int .i64 e.kind).wf = true) (hn : x.vers.length ≤ 1048576) (hm : x.exts.length ≤ 1048576) (hit : itemsOf x.exts ≤ 1048576) (hk : e.kind = 2) :
    Calls Try.prog 36 #[v, .map (some e0), .agg #[.int .i64 e.kind, .int .i64 e.n]] w (MadeHel B (edH x e) w) := by
  have hed : edH x e = (⟨addV x.vers e.n, x.exts⟩ : Hel) := by
    unfold edH
    rw [hk]
    rw [if_neg (show ¬ (2 : Int) = 1 by decide), if_pos rfl]
  rw [hed]
  obtain ⟨a, n, c, b, m, d, lo, hi, lo', hi', rfl, h1, h2, h3, l1, l2, l3, l4, l5, l6⟩ := h
  obtain ⟨hsz, hX, hE, hR, hB0⟩ := thrice w #[.slice a n c, .slice b m d] #[.int .i64 e.kind, .int .i64 e.n] #[.slice none 0 0, .slice none 0 0] 31 34 31
  have hl := (hM.same hB0).look Try.underlying69 (hedZ _) hw
  have hfe : findE e.kind hedL = some (.func (.func 63) #[] #[]) := by rw [hk]; rfl
  rw [hfe] at hl
  simp only [Option.getD_some, Option.isSome_some] at hl
  clear hfe hk
  have H1 := Lib.hid (h1.same hB0)
  have H2 := Lib.hid (h2.same hB0)
  clear h1 h2
  have HX := Lib.hid hX
  have HR := Lib.hid hR
  have HB := Lib.hid hB0
  obtain ⟨e0c, e1c, -⟩ := two_cells hE
  clear hX hE hR hB0 hM hw
  unfold MadeHel
  go_enter Try.func36, Try.ntmps36
  go_wp2_with fail
  generalize (((w.alloc (.cells #[.slice a n c, .slice b m d] 31)).alloc (.cells #[.int .i64 e.kind, .int .i64 e.n] 34)).alloc (.cells #[.slice none 0 0, .slice none 0 0] 31)) = W0 at *
  refine (addHelloVersion_any (B := B) (g := w.heap.size) (x := x) e.n ⟨a, n, c, b, m, d, lo, hi, lo', hi', HX.out, H1.out, H2.out, h3, l1, l2, l3, l4, l5, l6⟩ (by omega)).mono ?_
  rintro e2 w2 ⟨a', n', c', b', m', d', rfl, hbox, hst, hfr⟩
  have HI := Lib.hid hfr
  have HS := Lib.hid hst
  have hs2 := hfr.size
  have HR2 := Lib.hid ((hfr.block (w.heap.size + 2) (by omega) (Or.inr (by omega))).trans HR.out)
  have HX2 := Lib.hid hbox
  clear hfr hst hbox hl e0c e1c
  obtain ⟨x0, x1, -⟩ := two_cells HX2.out
  obtain ⟨m0, m1, q0, q1⟩ := two_cells HR2.out
  obtain ⟨z0, z1, -⟩ := two_put HR2.out (.slice a' n' c') (.slice b' m' d')
  go_wp2_with fail
  (try simp only [Exit.inBlock, Exit.then])
  refine bodyPost_ret (by simp [results, Try.results36, go_sem, z0, z1]; try rfl) rfl ?_
  have hgr := set2_grown w2 (w.heap.size + 2) (.slice a' n' c') (.slice b' m' d')
  exact ⟨_, rfl, HS.out _ _ hgr (by omega) (by omega), (HI.out.to (HB.out.mono (by omega)) (Nat.le_refl _) (by omega)).grown hgr (by omega) (fun r e => by cases e; omega)⟩
set_option maxHeartbeats 4000000 in
set_option maxRecDepth 100000 in
theorem editedH_3 {B e0 : Nat} {w : World} {v : Value} {x : Hel} {e : Et} (h : FreeH B w v x) (hM : EdMap w e0 hedL) (hw : (Lit.int .i64 e.kind).wf = true) (hn : x.vers.length ≤ 1048576) (hm : x.exts.length ≤ 1048576) (hit : itemsOf x.exts ≤ 1048576) (hk : e.kind = 3) :
    Calls Try.prog 36 #[v, .map (some e0), .agg #[.int .i64 e.kind, .int .i64 e.n]] w (MadeHel B (edH x e) w) := by
  have hed : edH x e = (⟨x.vers, dropX e.n x.exts⟩ : Hel) := by
    unfold edH
    rw [hk]
    rw [if_neg (show ¬ (3 : Int) = 1 by decide), if_neg (show ¬ (3 : Int) = 2 by decide), if_pos rfl]
  rw [hed]
  obtain ⟨a, n, c, b, m, d, lo, hi, lo', hi', rfl, h1, h2, h3, l1, l2, l3, l4, l5, l6⟩ := h
  obtain ⟨hsz, hX, hE, hR, hB0⟩ := thrice w #[.slice a n c, .slice b m d] #[.int .i64 e.kind, .int .i64 e.n] #[.slice none 0 0, .slice none 0 0] 31 34 31
  have hl := (hM.same hB0).look Try.underlying69 (hedZ _) hw
  have hfe : findE e.kind hedL = some (.func (.func 64) #[] #[]) := by rw [hk]; rfl
  rw [hfe] at hl
  simp only [Option.getD_some, Option.isSome_some] at hl
  clear hfe hk
  have H1 := Lib.hid (h1.same hB0)
  have H2 := Lib.hid (h2.same hB0)
  clear h1 h2
  have HX := Lib.hid hX
  have HR := Lib.hid hR
  have HB := Lib.hid hB0
  obtain ⟨e0c, e1c, -⟩ := two_cells hE
  clear hX hE hR hB0 hM hw
  unfold MadeHel
  go_enter Try.func36, Try.ntmps36
  go_wp2_with fail
  generalize (((w.alloc (.cells #[.slice a n c, .slice b m d] 31)).alloc (.cells #[.int .i64 e.kind, .int .i64 e.n] 34)).alloc (.cells #[.slice none 0 0, .slice none 0 0] 31)) = W0 at *
  refine (dropHelloExt_any (B := B) (g := w.heap.size) (x := x) e.n ⟨a, n, c, b, m, d, lo, hi, lo', hi', HX.out, H1.out, H2.out, h3, l1, l2, l3, l4, l5, l6⟩ hm hit).mono ?_
  rintro e2 w2 ⟨a', n', c', b', m', d', rfl, hbox, hst, hfr⟩
  have HI := Lib.hid hfr
  have HS := Lib.hid hst
  have hs2 := hfr.size
  have HR2 := Lib.hid ((hfr.block (w.heap.size + 2) (by omega) (Or.inr (by omega))).trans HR.out)
  have HX2 := Lib.hid hbox
  clear hfr hst hbox hl e0c e1c
  obtain ⟨x0, x1, -⟩ := two_cells HX2.out
  obtain ⟨m0, m1, q0, q1⟩ := two_cells HR2.out
  obtain ⟨z0, z1, -⟩ := two_put HR2.out (.slice a' n' c') (.slice b' m' d')
  go_wp2_with fail
  (try simp only [Exit.inBlock, Exit.then])
  refine bodyPost_ret (by simp [results, Try.results36, go_sem, z0, z1]; try rfl) rfl ?_
  have hgr := set2_grown w2 (w.heap.size + 2) (.slice a' n' c') (.slice b' m' d')
  exact ⟨_, rfl, HS.out _ _ hgr (by omega) (by omega), (HI.out.to (HB.out.mono (by omega)) (Nat.le_refl _) (by omega)).grown hgr (by omega) (fun r e => by cases e; omega)⟩
set_option maxHeartbeats 4000000 in
set_option maxRecDepth 100000 in
theorem editedH_6 {B e0 : Nat} {w : World} {v : Value} {x : Hel} {e : Et} (h : FreeH B w v x) (hM : EdMap w e0 hedL) (hw : (Lit.int .i64 e.kind).wf = true) (hn : x.vers.length ≤ 1048576) (hm : x.exts.length ≤ 1048576) (hit : itemsOf x.exts ≤ 1048576) (hk : e.kind = 6) :
    Calls Try.prog 36 #[v, .map (some e0), .agg #[.int .i64 e.kind, .int .i64 e.n]] w (MadeHel B (edH x e) w) := by
  have hed : edH x e = (⟨x.vers, addE e.n x.exts⟩ : Hel) := by
    unfold edH
    rw [hk]
    rw [if_neg (show ¬ (6 : Int) = 1 by decide), if_neg (show ¬ (6 : Int) = 2 by decide), if_neg (show ¬ (6 : Int) = 3 by decide), if_pos rfl]
  rw [hed]
  obtain ⟨a, n, c, b, m, d, lo, hi, lo', hi', rfl, h1, h2, h3, l1, l2, l3, l4, l5, l6⟩ := h
  obtain ⟨hsz, hX, hE, hR, hB0⟩ := thrice w #[.slice a n c, .slice b m d] #[.int .i64 e.kind, .int .i64 e.n] #[.slice none 0 0, .slice none 0 0] 31 34 31
  have hl := (hM.same hB0).look Try.underlying69 (hedZ _) hw
  have hfe : findE e.kind hedL = some (.func (.func 65) #[] #[]) := by rw [hk]; rfl
  rw [hfe] at hl
  simp only [Option.getD_some, Option.isSome_some] at hl
  clear hfe hk
  have H1 := Lib.hid (h1.same hB0)
  have H2 := Lib.hid (h2.same hB0)
  clear h1 h2
  have HX := Lib.hid hX
  have HR := Lib.hid hR
  have HB := Lib.hid hB0
  obtain ⟨e0c, e1c, -⟩ := two_cells hE
  clear hX hE hR hB0 hM hw
  unfold MadeHel
  go_enter Try.func36, Try.ntmps36
  go_wp2_with fail
  generalize (((w.alloc (.cells #[.slice a n c, .slice b m d] 31)).alloc (.cells #[.int .i64 e.kind, .int .i64 e.n] 34)).alloc (.cells #[.slice none 0 0, .slice none 0 0] 31)) = W0 at *
  refine (addHelloExt_any (B := B) (g := w.heap.size) (x := x) e.n ⟨a, n, c, b, m, d, lo, hi, lo', hi', HX.out, H1.out, H2.out, h3, l1, l2, l3, l4, l5, l6⟩ hm).mono ?_
  rintro e2 w2 ⟨a', n', c', b', m', d', rfl, hbox, hst, hfr⟩
  have HI := Lib.hid hfr
  have HS := Lib.hid hst
  have hs2 := hfr.size
  have HR2 := Lib.hid ((hfr.block (w.heap.size + 2) (by omega) (Or.inr (by omega))).trans HR.out)
  have HX2 := Lib.hid hbox
  clear hfr hst hbox hl e0c e1c
  obtain ⟨x0, x1, -⟩ := two_cells HX2.out
  obtain ⟨m0, m1, q0, q1⟩ := two_cells HR2.out
  obtain ⟨z0, z1, -⟩ := two_put HR2.out (.slice a' n' c') (.slice b' m' d')
  go_wp2_with fail
  (try simp only [Exit.inBlock, Exit.then])
  refine bodyPost_ret (by simp [results, Try.results36, go_sem, z0, z1]; try rfl) rfl ?_
  have hgr := set2_grown w2 (w.heap.size + 2) (.slice a' n' c') (.slice b' m' d')
  exact ⟨_, rfl, HS.out _ _ hgr (by omega) (by omega), (HI.out.to (HB.out.mono (by omega)) (Nat.le_refl _) (by omega)).grown hgr (by omega) (fun r e => by cases e; omega)⟩
set_option maxHeartbeats 4000000 in
set_option maxRecDepth 100000 in
theorem editedH_0 {B e0 : Nat} {w : World} {v : Value} {x : Hel} {e : Et} (h : FreeH B w v x) (hM : EdMap w e0 hedL) (hw : (Lit.int .i64 e.kind).wf = true) (hn : x.vers.length ≤ 1048576) (hm : x.exts.length ≤ 1048576) (hit : itemsOf x.exts ≤ 1048576) (hk : findE e.kind hedL = none) :
    Calls Try.prog 36 #[v, .map (some e0), .agg #[.int .i64 e.kind, .int .i64 e.n]] w (MadeHel B (edH x e) w) := by
  obtain ⟨a, n, c, b, m, d, lo, hi, lo', hi', rfl, h1, h2, h3, l1, l2, l3, l4, l5, l6⟩ := h
  obtain ⟨hsz, hX, hE, hR, hB0⟩ := thrice w #[.slice a n c, .slice b m d] #[.int .i64 e.kind, .int .i64 e.n] #[.slice none 0 0, .slice none 0 0] 31 34 31
  obtain ⟨hszf, -, -, -, hBf⟩ := thrice w #[.slice a n c, .slice b m d] #[.int .i64 e.kind, .int .i64 e.n] #[.slice a n c, .slice b m d] 31 34 31
  have HF1 := Lib.hid (h1.same hBf)
  have HF2 := Lib.hid (h2.same hBf)
  have HFB := Lib.hid hBf
  clear hBf
  have hl := (hM.same hB0).look Try.underlying69 (hedZ _) hw
  rw [hk] at hl
  simp only [Option.getD_none, Option.isSome_none] at hl
  have hed := edH_0 (x := x) hk
  rw [hed]
  clear hk hed
  have H1 := Lib.hid (h1.same hB0)
  have H2 := Lib.hid (h2.same hB0)
  clear h1 h2
  have HX := Lib.hid hX
  have HR := Lib.hid hR
  have HB := Lib.hid hB0
  obtain ⟨e0c, e1c, -⟩ := two_cells hE
  obtain ⟨x0, x1, -⟩ := two_cells hX
  obtain ⟨m0, m1, q0, q1⟩ := two_cells hR
  obtain ⟨z0, z1, -⟩ := two_put hR (.slice a n c) (.slice b m d)
  clear hX hE hR hB0 hM hw
  unfold MadeHel
  go_enter Try.func36, Try.ntmps36
  go_wp2_with fail
  --generalize (((w.alloc (.cells #[.slice a n c, .slice b m d] 31)).alloc (.cells #[.int .i64 e.kind, .int .i64 e.n] 34)).alloc (.cells #[.slice none 0 0, .slice none 0 0] 31)) = W0 at *
  (try simp only [Exit.inBlock, Exit.then])
  refine bodyPost_ret (by simp [results, Try.results36, go_sem, z0, z1]; try rfl) rfl ?_
  exact ⟨_, rfl, own_hel (lo := lo) (hi := hi) (lo' := lo') (hi' := hi') HF1.out HF2.out h3 l1 l4 (by omega) (by omega) (Or.inl l2) (Nat.le_refl _), HFB.out.mono (by omega)⟩
set_option maxHeartbeats 4000000 in
set_option maxRecDepth 100000 in
theorem editedH_any {B e0 : Nat} {w : World} {v : Value} {x : Hel} {e : Et} (h : FreeH B w v x) (hM : EdMap w e0 hedL) (hw : (Lit.int .i64 e.kind).wf = true) (hn : x.vers.length ≤ 1048576) (hm : x.exts.length ≤ 1048576) (hit : itemsOf x.exts ≤ 1048576) :
    Calls Try.prog 36 #[v, .map (some e0), .agg #[.int .i64 e.kind, .int .i64 e.n]] w (MadeHel B (edH x e) w) := by
  cases hf : findE e.kind hedL with
  | none => exact editedH_0 h hM hw hn hm hit hf
  | some f =>
    by_cases h1 : e.kind = 1
    · exact editedH_1 h hM hw hn hm hit h1
    by_cases h2 : e.kind = 2
    · exact editedH_2 h hM hw hn hm hit h2
    by_cases h3 : e.kind = 3
    · exact editedH_3 h hM hw hn hm hit h3
    by_cases h6 : e.kind = 6
    · exact editedH_6 h hM hw hn hm hit h6
    exfalso
    unfold hedL at hf
    simp only [findE] at hf
    rw [if_neg (fun q => h6 q.symm), if_neg (fun q => h3 q.symm), if_neg (fun q => h2 q.symm), if_neg (fun q => h1 q.symm)] at hf
    cases hf
set_option maxHeartbeats 4000000 in
set_option maxRecDepth 100000 in
theorem editedA_4 {B e0 : Nat} {w : World} {v : Value} {x : Ans} {e : Et} (h : FreeA B w v x) (hM : EdMap w e0 aedL) (hw : (Lit.int .i64 e.kind).wf = true) (hm : x.exts.length ≤ 1048576) (hit : itemsOf x.exts ≤ 1048576) (hk : e.kind = 4) :
    Calls Try.prog 47 #[v, .map (some e0), .agg #[.int .i64 e.kind, .int .i64 e.n]] w (MadeAns B (edA x e) w) := by
  have hed : edA x e = (⟨setV e.n x.ver, x.exts⟩ : Ans) := by
    unfold edA
    rw [hk]
    rw [if_pos rfl]
  rw [hed]
  obtain ⟨b, m, d, lo', hi', rfl, h2, l3, l4, l5⟩ := h
  obtain ⟨hsz, hX, hE, hR, hB0⟩ := thrice w #[.int .i64 x.ver, .slice b m d] #[.int .i64 e.kind, .int .i64 e.n] #[.int .i64 0, .slice none 0 0] 43 34 43
  have hl := (hM.same hB0).look Try.underlying76 (aedZ _) hw
  have hfe : findE e.kind aedL = some (.func (.func 67) #[] #[]) := by rw [hk]; rfl
  rw [hfe] at hl
  simp only [Option.getD_some, Option.isSome_some] at hl
  clear hfe hk
  have H2 := Lib.hid (h2.same hB0)
  clear h2
  have HX := Lib.hid hX
  have HR := Lib.hid hR
  have HB := Lib.hid hB0
  obtain ⟨e0c, e1c, -⟩ := two_cells hE
  clear hX hE hR hB0 hM hw
  unfold MadeAns
  go_enter Try.func47, Try.ntmps47
  go_wp2_with fail
  generalize (((w.alloc (.cells #[.int .i64 x.ver, .slice b m d] 43)).alloc (.cells #[.int .i64 e.kind, .int .i64 e.n] 34)).alloc (.cells #[.int .i64 0, .slice none 0 0] 43)) = W0 at *
  refine (setAnswerVersion_any (B := B) (g := w.heap.size) (x := x) e.n ⟨b, m, d, lo', hi', HX.out, H2.out, l3, l4, l5⟩).mono ?_
  rintro e2 w2 ⟨b', m', d', rfl, hbox, hst, hfr⟩
  have HI := Lib.hid hfr
  have HS := Lib.hid hst
  have hs2 := hfr.size
  have HR2 := Lib.hid ((hfr.block (w.heap.size + 2) (by omega) (Or.inr (by omega))).trans HR.out)
  have HX2 := Lib.hid hbox
  clear hfr hst hbox hl e0c e1c
  obtain ⟨x0, x1, -⟩ := two_cells HX2.out
  obtain ⟨m0, m1, q0, q1⟩ := two_cells HR2.out
  obtain ⟨z0, z1, -⟩ := two_put HR2.out (.int .i64 (⟨setV e.n x.ver, x.exts⟩ : Ans).ver) (.slice b' m' d')
  go_wp2_with fail
  (try simp only [Exit.inBlock, Exit.then])
  refine bodyPost_ret (by simp [results, Try.results47, go_sem, z0, z1]; try rfl) rfl ?_
  have hgr := set2_grown w2 (w.heap.size + 2) (.int .i64 (⟨setV e.n x.ver, x.exts⟩ : Ans).ver) (.slice b' m' d')
  exact ⟨_, rfl, HS.out _ _ hgr (by omega) (by omega), (HI.out.to (HB.out.mono (by omega)) (Nat.le_refl _) (by omega)).grown hgr (by omega) (fun r e => by cases e; omega)⟩
set_option maxHeartbeats 4000000 in
set_option maxRecDepth 100000 in
theorem editedA_5 {B e0 : Nat} {w : World} {v : Value} {x : Ans} {e : Et} (h : FreeA B w v x) (hM : EdMap w e0 aedL) (hw : (Lit.int .i64 e.kind).wf = true) (hm : x.exts.length ≤ 1048576) (hit : itemsOf x.exts ≤ 1048576) (hk : e.kind = 5) :
    Calls Try.prog 47 #[v, .map (some e0), .agg #[.int .i64 e.kind, .int .i64 e.n]] w (MadeAns B (edA x e) w) := by
  have hed : edA x e = (⟨x.ver, dropX e.n x.exts⟩ : Ans) := by
    unfold edA
    rw [hk]
    rw [if_neg (show ¬ (5 : Int) = 4 by decide), if_pos rfl]
  rw [hed]
  obtain ⟨b, m, d, lo', hi', rfl, h2, l3, l4, l5⟩ := h
  obtain ⟨hsz, hX, hE, hR, hB0⟩ := thrice w #[.int .i64 x.ver, .slice b m d] #[.int .i64 e.kind, .int .i64 e.n] #[.int .i64 0, .slice none 0 0] 43 34 43
  have hl := (hM.same hB0).look Try.underlying76 (aedZ _) hw
  have hfe : findE e.kind aedL = some (.func (.func 68) #[] #[]) := by rw [hk]; rfl
  rw [hfe] at hl
  simp only [Option.getD_some, Option.isSome_some] at hl
  clear hfe hk
  have H2 := Lib.hid (h2.same hB0)
  clear h2
  have HX := Lib.hid hX
  have HR := Lib.hid hR
  have HB := Lib.hid hB0
  obtain ⟨e0c, e1c, -⟩ := two_cells hE
  clear hX hE hR hB0 hM hw
  unfold MadeAns
  go_enter Try.func47, Try.ntmps47
  go_wp2_with fail
  generalize (((w.alloc (.cells #[.int .i64 x.ver, .slice b m d] 43)).alloc (.cells #[.int .i64 e.kind, .int .i64 e.n] 34)).alloc (.cells #[.int .i64 0, .slice none 0 0] 43)) = W0 at *
  refine (dropAnswerExt_any (B := B) (g := w.heap.size) (x := x) e.n ⟨b, m, d, lo', hi', HX.out, H2.out, l3, l4, l5⟩ hm hit).mono ?_
  rintro e2 w2 ⟨b', m', d', rfl, hbox, hst, hfr⟩
  have HI := Lib.hid hfr
  have HS := Lib.hid hst
  have hs2 := hfr.size
  have HR2 := Lib.hid ((hfr.block (w.heap.size + 2) (by omega) (Or.inr (by omega))).trans HR.out)
  have HX2 := Lib.hid hbox
  clear hfr hst hbox hl e0c e1c
  obtain ⟨x0, x1, -⟩ := two_cells HX2.out
  obtain ⟨m0, m1, q0, q1⟩ := two_cells HR2.out
  obtain ⟨z0, z1, -⟩ := two_put HR2.out (.int .i64 (⟨x.ver, dropX e.n x.exts⟩ : Ans).ver) (.slice b' m' d')
  go_wp2_with fail
  (try simp only [Exit.inBlock, Exit.then])
  refine bodyPost_ret (by simp [results, Try.results47, go_sem, z0, z1]; try rfl) rfl ?_
  have hgr := set2_grown w2 (w.heap.size + 2) (.int .i64 (⟨x.ver, dropX e.n x.exts⟩ : Ans).ver) (.slice b' m' d')
  exact ⟨_, rfl, HS.out _ _ hgr (by omega) (by omega), (HI.out.to (HB.out.mono (by omega)) (Nat.le_refl _) (by omega)).grown hgr (by omega) (fun r e => by cases e; omega)⟩
set_option maxHeartbeats 4000000 in
set_option maxRecDepth 100000 in
theorem editedA_0 {B e0 : Nat} {w : World} {v : Value} {x : Ans} {e : Et} (h : FreeA B w v x) (hM : EdMap w e0 aedL) (hw : (Lit.int .i64 e.kind).wf = true) (hm : x.exts.length ≤ 1048576) (hit : itemsOf x.exts ≤ 1048576) (hk : findE e.kind aedL = none) :
    Calls Try.prog 47 #[v, .map (some e0), .agg #[.int .i64 e.kind, .int .i64 e.n]] w (MadeAns B (edA x e) w) := by
  obtain ⟨b, m, d, lo', hi', rfl, h2, l3, l4, l5⟩ := h
  obtain ⟨hsz, hX, hE, hR, hB0⟩ := thrice w #[.int .i64 x.ver, .slice b m d] #[.int .i64 e.kind, .int .i64 e.n] #[.int .i64 0, .slice none 0 0] 43 34 43
  obtain ⟨hszf, -, -, -, hBf⟩ := thrice w #[.int .i64 x.ver, .slice b m d] #[.int .i64 e.kind, .int .i64 e.n] #[.int .i64 x.ver, .slice b m d] 43 34 43
  have HF2 := Lib.hid (h2.same hBf)
  have HFB := Lib.hid hBf
  clear hBf
  have hl := (hM.same hB0).look Try.underlying76 (aedZ _) hw
  rw [hk] at hl
  simp only [Option.getD_none, Option.isSome_none] at hl
  have hed := edA_0 (x := x) hk
  rw [hed]
  clear hk hed
  have H2 := Lib.hid (h2.same hB0)
  clear h2
  have HX := Lib.hid hX
  have HR := Lib.hid hR
  have HB := Lib.hid hB0
  obtain ⟨e0c, e1c, -⟩ := two_cells hE
  obtain ⟨x0, x1, -⟩ := two_cells hX
  obtain ⟨m0, m1, q0, q1⟩ := two_cells hR
  obtain ⟨z0, z1, -⟩ := two_put hR (.int .i64 x.ver) (.slice b m d)
  clear hX hE hR hB0 hM hw
  unfold MadeAns
  go_enter Try.func47, Try.ntmps47
  go_wp2_with fail
  --generalize (((w.alloc (.cells #[.int .i64 x.ver, .slice b m d] 43)).alloc (.cells #[.int .i64 e.kind, .int .i64 e.n] 34)).alloc (.cells #[.int .i64 0, .slice none 0 0] 43)) = W0 at *
  (try simp only [Exit.inBlock, Exit.then])
  refine bodyPost_ret (by simp [results, Try.results47, go_sem, z0, z1]; try rfl) rfl ?_
  exact ⟨_, rfl, own_ans (lo := lo') (hi := hi') HF2.out l4 (by omega) (Nat.le_refl _), HFB.out.mono (by omega)⟩
set_option maxHeartbeats 4000000 in
set_option maxRecDepth 100000 in
theorem editedA_any {B e0 : Nat} {w : World} {v : Value} {x : Ans} {e : Et} (h : FreeA B w v x) (hM : EdMap w e0 aedL) (hw : (Lit.int .i64 e.kind).wf = true) (hm : x.exts.length ≤ 1048576) (hit : itemsOf x.exts ≤ 1048576) :
    Calls Try.prog 47 #[v, .map (some e0), .agg #[.int .i64 e.kind, .int .i64 e.n]] w (MadeAns B (edA x e) w) := by
  cases hf : findE e.kind aedL with
  | none => exact editedA_0 h hM hw hm hit hf
  | some f =>
    by_cases h4 : e.kind = 4
    · exact editedA_4 h hM hw hm hit h4
    by_cases h5 : e.kind = 5
    · exact editedA_5 h hM hw hm hit h5
    exfalso
    unfold aedL at hf
    simp only [findE] at hf
    rw [if_neg (fun q => h5 q.symm), if_neg (fun q => h4 q.symm)] at hf
    cases hf
set_option maxHeartbeats 4000000 in
set_option maxRecDepth 100000 in
theorem editHello_any {w : World} {v : Value} {x : Hel} {e : Et} (h : HelW w v x) (hw : (Lit.int .i64 e.kind).wf = true) (hn : x.vers.length ≤ 1048576) (hm : x.exts.length ≤ 1048576) (hit : itemsOf x.exts ≤ 1048576) :
    Calls Try.prog 10 #[v, .agg #[.int .i64 e.kind, .int .i64 e.n]] w (MadeHel w.heap.size (edH x e) w) := by
  obtain ⟨a, n, c, b, m, d, rfl, ⟨h1, hc1⟩, h2, hc2⟩ := h.parts
  obtain ⟨hsz, hX, hE, hR, hB0⟩ := thrice w #[.slice a n c, .slice b m d] #[.int .i64 e.kind, .int .i64 e.n] #[.slice none 0 0, .slice none 0 0] 31 34 31
  have hlm := h2.len
  have hln := h1.len
  have H1 := Lib.hid (h1.same hB0)
  have H2 := Lib.hid (h2.same hB0)
  have CE := Lib.hid (two_cells hE)
  have CX := Lib.hid (two_cells hX)
  have HR := Lib.hid hR
  have HB := Lib.hid hB0
  clear h2 h1 hX hE hR hB0
  unfold MadeHel
  go_enter Try.func10, Try.ntmps10
  go_wp2_with fail
  generalize (((w.alloc (.cells #[.slice a n c, .slice b m d] 31)).alloc (.cells #[.int .i64 e.kind, .int .i64 e.n] 34)).alloc (.cells #[.slice none 0 0, .slice none 0 0] 31)) = W0 at *
  have hd0 : W0.heap.size ≤ W0.drew.heap.size := Nat.le_refl _
  have HBd : Hid (Below W0.heap.size W0 W0.drew) := Lib.hid (Below.refl _ _).drew
  refine wp_region_held_drew (S := fun w9 => (w9.cell? ⟨w.heap.size, 0, none⟩ = some (.slice a n c) ∧ w9.cell? ⟨w.heap.size, 1, none⟩ = some (.slice b m d)) ∧ w9.cell? ⟨w.heap.size + 1, 0, none⟩ = some (.int .i64 e.kind) ∧ w9.cell? ⟨w.heap.size + 1, 1, none⟩ = some (.int .i64 e.n)) (by kernel_rfl) ⟨⟨(cell_stay CX.out.1 HBd.out), (cell_stay CX.out.2.1 HBd.out)⟩, (cell_stay CE.out.1 HBd.out), (cell_stay CE.out.2.1 HBd.out)⟩ (fun hHeld => ?_)
  refine wpAnyH_take (i := 0) (v := ?v1) (by simp only [List.getElem?_toArray, List.getElem?_cons_succ, List.getElem?_cons_zero]; rfl) (by kernel_rfl) (by kernel_rfl) (by kernel_rfl) (by exact fun _ _ _ h => h) (Or.inl ⟨by rfl, fun w9 hS9 => ?hy1⟩) hHeld ?rest1
  case hy1 =>
    dsimp only at hS9
    obtain ⟨⟨y0, y1⟩, y2, y3⟩ := hS9
    go_simp
    try with_reducible rfl
  try simp only [Act.put, List.setIfInBounds_toArray, List.set_cons_zero, List.set_cons_succ]
  refine wpAnyH_take (i := 1) (v := ?v2) (by simp only [List.getElem?_toArray, List.getElem?_cons_succ, List.getElem?_cons_zero]; rfl) (by kernel_rfl) (by kernel_rfl) (by kernel_rfl) (by exact fun _ _ _ h => h) (Or.inl ⟨by rfl, fun w9 hS9 => ?hy2⟩) hHeld ?rest2
  case hy2 =>
    dsimp only at hS9
    obtain ⟨⟨y0, y1⟩, y2, y3⟩ := hS9
    go_simp
    try with_reducible rfl
  try simp only [Act.put, List.setIfInBounds_toArray, List.set_cons_zero, List.set_cons_succ]
  refine wpAnyH_take (i := 3) (v := ?v3) (by simp only [List.getElem?_toArray, List.getElem?_cons_succ, List.getElem?_cons_zero]; rfl) (by kernel_rfl) (by kernel_rfl) (by kernel_rfl) (by exact fun _ _ _ h => h) (Or.inl ⟨by rfl, fun w9 hS9 => ?hy3⟩) hHeld ?rest3
  case hy3 =>
    dsimp only at hS9
    obtain ⟨⟨y0, y1⟩, y2, y3⟩ := hS9
    go_simp
    try with_reducible rfl
  try simp only [Act.put, List.setIfInBounds_toArray, List.set_cons_zero, List.set_cons_succ]
  refine wpAnyH_take (i := 4) (v := ?v4) (by simp only [List.getElem?_toArray, List.getElem?_cons_succ, List.getElem?_cons_zero]; rfl) (by kernel_rfl) (by kernel_rfl) (by kernel_rfl) (by exact fun _ _ _ h => h) (Or.inl ⟨by rfl, fun w9 hS9 => ?hy4⟩) hHeld ?rest4
  case hy4 =>
    dsimp only at hS9
    obtain ⟨⟨y0, y1⟩, y2, y3⟩ := hS9
    go_simp
    try with_reducible rfl
  try simp only [Act.put, List.setIfInBounds_toArray, List.set_cons_zero, List.set_cons_succ]
  refine wpAnyH_take (i := 8) (v := ?v5) (by simp only [List.getElem?_toArray, List.getElem?_cons_succ, List.getElem?_cons_zero]; rfl) (by kernel_rfl) (by kernel_rfl) (by kernel_rfl) (by exact fun _ _ _ h => h) (Or.inl ⟨by rfl, fun w9 hS9 => ?hy5⟩) hHeld ?rest5
  case hy5 =>
    dsimp only at hS9
    obtain ⟨⟨y0, y1⟩, y2, y3⟩ := hS9
    go_simp
    try with_reducible rfl
  try simp only [Act.put, List.setIfInBounds_toArray, List.set_cons_zero, List.set_cons_succ]
  refine wpAnyH_ready (rs := [2]) (by kernel_rfl) (by simp) (AllReadyH.cons (by simp only [List.getElem?_toArray, List.getElem?_cons_succ, List.getElem?_cons_zero]; rfl) (fun K hK => ?_) AllReadyH.nil)
  go_simp
  refine (copyList_any (H1.out.same HBd.out) (by omega)).mono ?_
  rintro e1 w1 ⟨a1, n1, c1, rfl, ho1, hb⟩
  have HB1 : Hid (Below W0.heap.size W0 w1) := Lib.hid (HBd.out.trans (hb.mono HBd.out.size))
  have hs1 : W0.drew.heap.size ≤ w1.heap.size := hb.size
  have HO1 := Lib.hid ho1
  have HS1 := Lib.hid ho1.span
  have hT1 : w1.heap.size ≤ w1.heap.size := Nat.le_refl _
  clear ho1
  clear hb
  go_wp2_with fail
  refine hK.out _ _ ⟨⟨(cell_stay CX.out.1 HB1.out), (cell_stay CX.out.2.1 HB1.out)⟩, (cell_stay CE.out.1 HB1.out), (cell_stay CE.out.2.1 HB1.out)⟩ (fun hHeld => ?_)
  clear hK K
  try simp only [Act.put, List.setIfInBounds_toArray, List.set_cons_zero, List.set_cons_succ]
  refine wpAnyH_ready (rs := [5]) (by kernel_rfl) (by simp) (AllReadyH.cons (by simp only [List.getElem?_toArray, List.getElem?_cons_succ, List.getElem?_cons_zero]; rfl) (fun K hK => ?_) AllReadyH.nil)
  go_simp
  refine (copyExts_any (H2.out.same HB1.out) (by omega) hit).mono ?_
  rintro e2 w2 ⟨g2, d2, rfl, ho2, hb⟩
  have HB2 : Hid (Below W0.heap.size W0 w2) := Lib.hid (HB1.out.trans (hb.mono HB1.out.size))
  have hs2 : w1.heap.size ≤ w2.heap.size := hb.size
  replace HO1 := Lib.hid (HO1.out.same hb)
  have HO2 := Lib.hid ho2.lim
  clear ho2
  clear hb
  go_wp2_with fail
  refine hK.out _ _ ⟨⟨(cell_stay CX.out.1 HB2.out), (cell_stay CX.out.2.1 HB2.out)⟩, (cell_stay CE.out.1 HB2.out), (cell_stay CE.out.2.1 HB2.out)⟩ (fun hHeld => ?_)
  clear hK K
  try simp only [Act.put, List.setIfInBounds_toArray, List.set_cons_zero, List.set_cons_succ]
  refine wpAnyH_take (i := 6) (v := ?v6) (by simp only [List.getElem?_toArray, List.getElem?_cons_succ, List.getElem?_cons_zero]; rfl) (by kernel_rfl) (by kernel_rfl) (by kernel_rfl) (by exact fun _ _ _ h => h) (Or.inl ⟨by rfl, fun w9 hS9 => ?hy6⟩) hHeld ?rest6
  case hy6 =>
    dsimp only at hS9
    obtain ⟨⟨y0, y1⟩, y2, y3⟩ := hS9
    go_simp
    try with_reducible rfl
  try simp only [Act.put, List.setIfInBounds_toArray, List.set_cons_zero, List.set_cons_succ]
  refine wpAnyH_ready (rs := [7]) (by kernel_rfl) (by simp) (AllReadyH.cons (by simp only [List.getElem?_toArray, List.getElem?_cons_succ, List.getElem?_cons_zero]; rfl) (fun K hK => ?_) AllReadyH.nil)
  go_simp
  refine (helloEdits_any w2).mono ?_
  rintro e3 w3 ⟨rfl, hm7, hb⟩
  have HB3 : Hid (Below W0.heap.size W0 w3) := Lib.hid (HB2.out.trans (hb.mono HB2.out.size))
  have hs3 : w2.heap.size ≤ w3.heap.size := hb.size
  replace HO1 := Lib.hid (HO1.out.same hb)
  replace HO2 := Lib.hid (HO2.out.same hb)
  have HM := Lib.hid hm7
  clear hm7
  clear hb
  go_wp2_with fail
  refine hK.out _ _ ⟨⟨(cell_stay CX.out.1 HB3.out), (cell_stay CX.out.2.1 HB3.out)⟩, (cell_stay CE.out.1 HB3.out), (cell_stay CE.out.2.1 HB3.out)⟩ (fun hHeld => ?_)
  clear hK K
  try simp only [Act.put, List.setIfInBounds_toArray, List.set_cons_zero, List.set_cons_succ]
  refine wpAnyH_ready (rs := [9]) (by kernel_rfl) (by simp) (AllReadyH.cons (by simp only [List.getElem?_toArray, List.getElem?_cons_succ, List.getElem?_cons_zero]; rfl) (fun K hK => ?_) AllReadyH.nil)
  go_simp
  refine (editedH_any (B := W0.heap.size) (e := e) ⟨a1, n1, c1, _, _, d2, W0.drew.heap.size, w1.heap.size, w1.heap.size, w2.heap.size, rfl, HO1.out, HO2.out, HS1.out, hd0, Nat.le_refl _, by omega, by omega, by omega, by omega⟩ HM.out hw (by omega) (by omega) hit).mono ?_
  rintro e4 w4 ⟨v9, rfl, ho9, hb⟩
  have hbs := hb.size
  have HB4 : Hid (Below W0.heap.size W0 w4) := Lib.hid (HB3.out.trans hb)
  obtain ⟨a', n', c', b', m', d', rfl⟩ := ho9.shape
  have HO9 := Lib.hid ho9
  clear hb ho9
  go_wp2_with fail
  refine hK.out _ _ ⟨⟨(cell_stay CX.out.1 HB4.out), (cell_stay CX.out.2.1 HB4.out)⟩, (cell_stay CE.out.1 HB4.out), (cell_stay CE.out.2.1 HB4.out)⟩ (fun hHeld => ?_)
  clear hK K
  try simp only [Act.put, List.setIfInBounds_toArray, List.set_cons_zero, List.set_cons_succ]
  refine wpAnyH_ready (rs := [10]) (by kernel_rfl) (by simp) (AllReadyH.cons (by simp only [List.getElem?_toArray, List.getElem?_cons_succ, List.getElem?_cons_zero]; rfl) (fun K hK => ?_) AllReadyH.nil)
  have HR9 := Lib.hid ((HB4.out.block (w.heap.size + 2) (by omega)).trans HR.out)
  obtain ⟨m0, m1, q0, q1⟩ := two_cells HR9.out
  obtain ⟨z0, z1, -⟩ := two_put HR9.out (.slice a' n' c') (.slice b' m' d')
  have hgr := set2_grown w4 (w.heap.size + 2) (.slice a' n' c') (.slice b' m' d')
  go_simp
  refine hK.out _ _ ⟨⟨(cell_off (cell_stay CX.out.1 HB4.out) hgr (by simp)), (cell_off (cell_stay CX.out.2.1 HB4.out) hgr (by simp))⟩, (cell_off (cell_stay CE.out.1 HB4.out) hgr (by simp)), (cell_off (cell_stay CE.out.2.1 HB4.out) hgr (by simp))⟩ (fun hHeld => ?_)
  clear hK K
  try simp only [Act.put, List.setIfInBounds_toArray, List.set_cons_zero, List.set_cons_succ]
  refine wpAnyH_done (by kernel_rfl) ?_ _
  go_wp2_with fail
  (try simp only [Exit.inBlock, Exit.then])
  refine bodyPost_ret (by simp [results, Try.results10, go_sem, z0, z1]; try rfl) rfl ?_
  exact ⟨_, rfl, ((HO9.out.aside (one_inside hgr) (Or.inl (by omega))).lower (by omega)).top (by simp) (Nat.le_refl _), ((HB.out.trans (HB4.out.mono (by omega))).grown hgr (by have := HB4.out.size; omega) (fun r e => by cases e; omega))⟩
set_option maxHeartbeats 4000000 in
set_option maxRecDepth 100000 in
theorem editAnswer_any {w : World} {v : Value} {x : Ans} {e : Et} (h : AnsW w v x) (hw : (Lit.int .i64 e.kind).wf = true) (hm : x.exts.length ≤ 1048576) (hit : itemsOf x.exts ≤ 1048576) :
    Calls Try.prog 17 #[v, .agg #[.int .i64 e.kind, .int .i64 e.n]] w (MadeAns w.heap.size (edA x e) w) := by
  obtain ⟨b, m, d, rfl, h2, hc2⟩ := h
  obtain ⟨hsz, hX, hE, hR, hB0⟩ := thrice w #[.int .i64 x.ver, .slice b m d] #[.int .i64 e.kind, .int .i64 e.n] #[.int .i64 0, .slice none 0 0] 43 34 43
  have hlm := h2.len
  have H2 := Lib.hid (h2.same hB0)
  have CE := Lib.hid (two_cells hE)
  have CX := Lib.hid (two_cells hX)
  have HR := Lib.hid hR
  have HB := Lib.hid hB0
  clear h2 hX hE hR hB0
  unfold MadeAns
  go_enter Try.func17, Try.ntmps17
  go_wp2_with fail
  generalize (((w.alloc (.cells #[.int .i64 x.ver, .slice b m d] 43)).alloc (.cells #[.int .i64 e.kind, .int .i64 e.n] 34)).alloc (.cells #[.int .i64 0, .slice none 0 0] 43)) = W0 at *
  have hd0 : W0.heap.size ≤ W0.drew.heap.size := Nat.le_refl _
  have HBd : Hid (Below W0.heap.size W0 W0.drew) := Lib.hid (Below.refl _ _).drew
  refine wp_region_held_drew (S := fun w9 => (w9.cell? ⟨w.heap.size, 0, none⟩ = some (.int .i64 x.ver) ∧ w9.cell? ⟨w.heap.size, 1, none⟩ = some (.slice b m d)) ∧ w9.cell? ⟨w.heap.size + 1, 0, none⟩ = some (.int .i64 e.kind) ∧ w9.cell? ⟨w.heap.size + 1, 1, none⟩ = some (.int .i64 e.n)) (by kernel_rfl) ⟨⟨(cell_stay CX.out.1 HBd.out), (cell_stay CX.out.2.1 HBd.out)⟩, (cell_stay CE.out.1 HBd.out), (cell_stay CE.out.2.1 HBd.out)⟩ (fun hHeld => ?_)
  refine wpAnyH_take (i := 0) (v := ?v7) (by simp only [List.getElem?_toArray, List.getElem?_cons_succ, List.getElem?_cons_zero]; rfl) (by kernel_rfl) (by kernel_rfl) (by kernel_rfl) (by exact fun _ _ _ h => h) (Or.inl ⟨by rfl, fun w9 hS9 => ?hy7⟩) hHeld ?rest7
  case hy7 =>
    dsimp only at hS9
    obtain ⟨⟨y0, y1⟩, y2, y3⟩ := hS9
    go_simp
    try with_reducible rfl
  try simp only [Act.put, List.setIfInBounds_toArray, List.set_cons_zero, List.set_cons_succ]
  refine wpAnyH_take (i := 1) (v := ?v8) (by simp only [List.getElem?_toArray, List.getElem?_cons_succ, List.getElem?_cons_zero]; rfl) (by kernel_rfl) (by kernel_rfl) (by kernel_rfl) (by exact fun _ _ _ h => h) (Or.inl ⟨by rfl, fun w9 hS9 => ?hy8⟩) hHeld ?rest8
  case hy8 =>
    dsimp only at hS9
    obtain ⟨⟨y0, y1⟩, y2, y3⟩ := hS9
    go_simp
    try with_reducible rfl
  try simp only [Act.put, List.setIfInBounds_toArray, List.set_cons_zero, List.set_cons_succ]
  refine wpAnyH_take (i := 2) (v := ?v9) (by simp only [List.getElem?_toArray, List.getElem?_cons_succ, List.getElem?_cons_zero]; rfl) (by kernel_rfl) (by kernel_rfl) (by kernel_rfl) (by exact fun _ _ _ h => h) (Or.inl ⟨by rfl, fun w9 hS9 => ?hy9⟩) hHeld ?rest9
  case hy9 =>
    dsimp only at hS9
    obtain ⟨⟨y0, y1⟩, y2, y3⟩ := hS9
    go_simp
    try with_reducible rfl
  try simp only [Act.put, List.setIfInBounds_toArray, List.set_cons_zero, List.set_cons_succ]
  refine wpAnyH_take (i := 3) (v := ?v10) (by simp only [List.getElem?_toArray, List.getElem?_cons_succ, List.getElem?_cons_zero]; rfl) (by kernel_rfl) (by kernel_rfl) (by kernel_rfl) (by exact fun _ _ _ h => h) (Or.inl ⟨by rfl, fun w9 hS9 => ?hy10⟩) hHeld ?rest10
  case hy10 =>
    dsimp only at hS9
    obtain ⟨⟨y0, y1⟩, y2, y3⟩ := hS9
    go_simp
    try with_reducible rfl
  try simp only [Act.put, List.setIfInBounds_toArray, List.set_cons_zero, List.set_cons_succ]
  refine wpAnyH_take (i := 7) (v := ?v11) (by simp only [List.getElem?_toArray, List.getElem?_cons_succ, List.getElem?_cons_zero]; rfl) (by kernel_rfl) (by kernel_rfl) (by kernel_rfl) (by exact fun _ _ _ h => h) (Or.inl ⟨by rfl, fun w9 hS9 => ?hy11⟩) hHeld ?rest11
  case hy11 =>
    dsimp only at hS9
    obtain ⟨⟨y0, y1⟩, y2, y3⟩ := hS9
    go_simp
    try with_reducible rfl
  try simp only [Act.put, List.setIfInBounds_toArray, List.set_cons_zero, List.set_cons_succ]
  refine wpAnyH_ready (rs := [4]) (by kernel_rfl) (by simp) (AllReadyH.cons (by simp only [List.getElem?_toArray, List.getElem?_cons_succ, List.getElem?_cons_zero]; rfl) (fun K hK => ?_) AllReadyH.nil)
  go_simp
  refine (copyExts_any (H2.out.same HBd.out) (by omega) hit).mono ?_
  rintro e1 w1 ⟨g2, d2, rfl, ho2, hb⟩
  have HB1 : Hid (Below W0.heap.size W0 w1) := Lib.hid (HBd.out.trans (hb.mono HBd.out.size))
  have hs1 : W0.drew.heap.size ≤ w1.heap.size := hb.size
  have HO2 := Lib.hid ho2.lim
  clear ho2
  clear hb
  go_wp2_with fail
  refine hK.out _ _ ⟨⟨(cell_stay CX.out.1 HB1.out), (cell_stay CX.out.2.1 HB1.out)⟩, (cell_stay CE.out.1 HB1.out), (cell_stay CE.out.2.1 HB1.out)⟩ (fun hHeld => ?_)
  clear hK K
  try simp only [Act.put, List.setIfInBounds_toArray, List.set_cons_zero, List.set_cons_succ]
  refine wpAnyH_take (i := 5) (v := ?v12) (by simp only [List.getElem?_toArray, List.getElem?_cons_succ, List.getElem?_cons_zero]; rfl) (by kernel_rfl) (by kernel_rfl) (by kernel_rfl) (by exact fun _ _ _ h => h) (Or.inl ⟨by rfl, fun w9 hS9 => ?hy12⟩) hHeld ?rest12
  case hy12 =>
    dsimp only at hS9
    obtain ⟨⟨y0, y1⟩, y2, y3⟩ := hS9
    go_simp
    try with_reducible rfl
  try simp only [Act.put, List.setIfInBounds_toArray, List.set_cons_zero, List.set_cons_succ]
  refine wpAnyH_ready (rs := [6]) (by kernel_rfl) (by simp) (AllReadyH.cons (by simp only [List.getElem?_toArray, List.getElem?_cons_succ, List.getElem?_cons_zero]; rfl) (fun K hK => ?_) AllReadyH.nil)
  go_simp
  refine (answerEdits_any w1).mono ?_
  rintro e2 w2 ⟨rfl, hm7, hb⟩
  have HB2 : Hid (Below W0.heap.size W0 w2) := Lib.hid (HB1.out.trans (hb.mono HB1.out.size))
  have hs2 : w1.heap.size ≤ w2.heap.size := hb.size
  replace HO2 := Lib.hid (HO2.out.same hb)
  have HM := Lib.hid hm7
  clear hm7
  clear hb
  go_wp2_with fail
  refine hK.out _ _ ⟨⟨(cell_stay CX.out.1 HB2.out), (cell_stay CX.out.2.1 HB2.out)⟩, (cell_stay CE.out.1 HB2.out), (cell_stay CE.out.2.1 HB2.out)⟩ (fun hHeld => ?_)
  clear hK K
  try simp only [Act.put, List.setIfInBounds_toArray, List.set_cons_zero, List.set_cons_succ]
  refine wpAnyH_ready (rs := [8]) (by kernel_rfl) (by simp) (AllReadyH.cons (by simp only [List.getElem?_toArray, List.getElem?_cons_succ, List.getElem?_cons_zero]; rfl) (fun K hK => ?_) AllReadyH.nil)
  go_simp
  refine (editedA_any (B := W0.heap.size) (e := e) ⟨_, _, d2, W0.drew.heap.size, w1.heap.size, rfl, HO2.out, by omega, hd0, by omega⟩ HM.out hw (by omega) hit).mono ?_
  rintro e3 w3 ⟨v9, rfl, ho9, hb⟩
  have hbs := hb.size
  have HB3 : Hid (Below W0.heap.size W0 w3) := Lib.hid (HB2.out.trans hb)
  obtain ⟨b', m', d', rfl⟩ := ho9.shape
  have HO9 := Lib.hid ho9
  clear hb ho9
  go_wp2_with fail
  refine hK.out _ _ ⟨⟨(cell_stay CX.out.1 HB3.out), (cell_stay CX.out.2.1 HB3.out)⟩, (cell_stay CE.out.1 HB3.out), (cell_stay CE.out.2.1 HB3.out)⟩ (fun hHeld => ?_)
  clear hK K
  try simp only [Act.put, List.setIfInBounds_toArray, List.set_cons_zero, List.set_cons_succ]
  refine wpAnyH_ready (rs := [9]) (by kernel_rfl) (by simp) (AllReadyH.cons (by simp only [List.getElem?_toArray, List.getElem?_cons_succ, List.getElem?_cons_zero]; rfl) (fun K hK => ?_) AllReadyH.nil)
  have HR9 := Lib.hid ((HB3.out.block (w.heap.size + 2) (by omega)).trans HR.out)
  obtain ⟨m0, m1, q0, q1⟩ := two_cells HR9.out
  obtain ⟨z0, z1, -⟩ := two_put HR9.out (.int .i64 (edA x e).ver) (.slice b' m' d')
  have hgr := set2_grown w3 (w.heap.size + 2) (.int .i64 (edA x e).ver) (.slice b' m' d')
  go_simp
  refine hK.out _ _ ⟨⟨(cell_off (cell_stay CX.out.1 HB3.out) hgr (by simp)), (cell_off (cell_stay CX.out.2.1 HB3.out) hgr (by simp))⟩, (cell_off (cell_stay CE.out.1 HB3.out) hgr (by simp)), (cell_off (cell_stay CE.out.2.1 HB3.out) hgr (by simp))⟩ (fun hHeld => ?_)
  clear hK K
  try simp only [Act.put, List.setIfInBounds_toArray, List.set_cons_zero, List.set_cons_succ]
  refine wpAnyH_done (by kernel_rfl) ?_ _
  go_wp2_with fail
  (try simp only [Exit.inBlock, Exit.then])
  refine bodyPost_ret (by simp [results, Try.results17, go_sem, z0, z1]; try rfl) rfl ?_
  exact ⟨_, rfl, ((HO9.out.aside (one_inside hgr) (Or.inl (by omega))).lower (by omega)).top (by simp) (Nat.le_refl _), ((HB.out.trans (HB3.out.mono (by omega))).grown hgr (by have := HB3.out.size; omega) (fun r e => by cases e; omega))⟩
end Go.Proofs.Ytcmjadfpifpknaa
namespace Go.Proofs.Ytcmjadfpifpknaa
open Go.ChangeShapes Go.WideShapes Go.ChangeAt Go.RowKit
set_option linter.unusedVariables false
set_option linter.unusedSimpArgs false

set_option maxRecDepth 100000 in
theorem l9Has_any {p : Option Addr} {m c : Nat} {y : List Int} (t : Int) {w : World} (h : Nums .i64 w p m y) :
    Calls Try.prog 53 #[.slice p m c, .int .i64 t] w fun e w' => e = .returned (.bool (decide (t ∈ y))) ∧ w = w' := by
  have H := Lib.hid h
  have hl := h.len
  have hfit := h.fits
  clear h
  go_enter Try.func53, Try.ntmps53
  go_wp2_with fail
  go_loop [5] (fun i => ∃ j : Nat, j ≤ m ∧ i = .int .i64 j ∧ ¬ t ∈ y.take j) (fun i => m - (intOf i).toNat)
  case atStart => exact ⟨0, Nat.zero_le _, rfl, by simp⟩
  case round =>
    obtain ⟨j, hj, rfl, hno⟩ := hrel
    have HN := Lib.hid hno
    clear hno
    by_cases hlt : j < m
    · obtain ⟨ad, z, rfl, hz, hc⟩ := H.out.at_ hlt
      by_cases hk : z = t
      · have HE : Hid (decide (t ∈ y) = true) := Lib.hid (decide_eq_true (by rw [← hk]; exact List.mem_of_getElem? hz))
        have hb : (z == t) = true := by simpa using hk
        clear hz hk
        go_wp2_with fail
        go_ret
        exact ⟨by rw [HE.out]; rfl, rfl⟩
      · have hb : (z == t) = false := by simpa using hk
        have HS : Hid (¬ t ∈ y.take (j + 1)) := Lib.hid (by
          rw [List.take_add_one, hz]
          intro hm
          rcases List.mem_append.1 hm with q | q
          · exact HN.out q
          · have : t = z := by simpa using q
            exact hk this.symm)
        clear hz hk
        go_wp2_with fail
        go_round
        case rel => exact ⟨j + 1, by omega, by go_num, HS.out⟩
        case measure => simp [intOf]; omega
    · obtain rfl : j = m := by omega
      have h1 := HN.out
      rw [List.take_of_length_le (by omega)] at h1
      have HE := Lib.hid (decide_eq_false h1)
      clear h1
      go_wp2_with fail
      go_ret
      exact ⟨by rw [HE.out]; rfl, rfl⟩
end Go.Proofs.Ytcmjadfpifpknaa
namespace Go.Proofs.Ytcmjadfpifpknaa
open Go.ChangeShapes Go.WideShapes Go.ChangeAt Go.RowKit
set_option linter.unusedVariables false
set_option linter.unusedSimpArgs false

theorem first_at {zs : List Int} {j : Nat} {z : Int} (hz : zs[j]? = some z) (h : ¬ z ∈ zs.take j) : zs.idxOf z = j := by
  have h1 := idx_le hz
  rcases Nat.lt_or_ge (zs.idxOf z) j with q | q
  · exfalso
    have hj : j < zs.length := (List.getElem?_eq_some_iff.1 hz).1
    have hi : zs.idxOf z < zs.length := by omega
    have e1 := List.getElem_idxOf hi
    refine h (List.mem_of_getElem? (i := zs.idxOf z) ?_)
    rw [List.getElem?_take_of_lt q, List.getElem?_eq_getElem hi, e1]
  · omega
theorem tagsX_take (l : List Vl) (j : Nat) : tagsX (l.take j) = (tagsX l).take j := by simp [tagsX, List.map_take]
set_option maxRecDepth 100000 in
theorem l9Byte_any {p : Option Addr} {m c : Nat} {y : List Int} {w : World} (h : Nums .i64 w p m y) :
    Calls Try.prog 58 #[.slice p m c] w fun e w' => e = .returned (.bool (allIn y 255)) ∧ w = w' := by
  have H := Lib.hid h
  have hl := h.len
  have hfit := h.fits
  clear h
  go_enter Try.func58, Try.ntmps58
  go_wp2_with fail
  go_loop [3] (fun i => ∃ j : Nat, j ≤ m ∧ i = .int .i64 j ∧ allIn (y.take j) 255 = true) (fun i => m - (intOf i).toNat)
  case atStart => exact ⟨0, Nat.zero_le _, rfl, allIn_zero _ _⟩
  case round =>
    obtain ⟨j, hj, rfl, hall⟩ := hrel
    have HA := Lib.hid hall
    clear hall
    by_cases hlt : j < m
    · obtain ⟨ad, z, rfl, hz, hc⟩ := H.out.at_ hlt
      by_cases hi : 0 ≤ z ∧ z ≤ 255
      · have HS := Lib.hid (allIn_step HA.out hz hi)
        have K := Lib.hid (fun w0 => l1R_t (decide_eq_true hi) w0)
        clear hz hi
        go_wp2_with (go_at_call 46; refine (K.out _).mono ?_; rintro e w' ⟨rfl, rfl⟩)
        go_round
        case rel => exact ⟨j + 1, by omega, by go_num, HS.out⟩
        case measure => simp [intOf]; omega
      · have HE := Lib.hid (allIn_no hz hi)
        have K := Lib.hid (fun w0 => l1R_t (decide_eq_false hi) w0)
        clear hz hi
        go_wp2_with (go_at_call 46; refine (K.out _).mono ?_; rintro e w' ⟨rfl, rfl⟩)
        go_ret
        exact ⟨by rw [HE.out]; rfl, rfl⟩
    · obtain rfl : j = m := by omega
      have h2 := HA.out
      rw [List.take_of_length_le (by omega)] at h2
      have HE := Lib.hid h2
      clear h2
      go_wp2_with fail
      go_ret
      exact ⟨by rw [HE.out]; rfl, rfl⟩
set_option maxRecDepth 100000 in
theorem specExtOf_any {a : Option Addr} {n c : Nat} {l : List Vl} (t : Int) {w : World} (h : Vals w a n l) :
    Calls Try.prog 59 #[.slice a n c, .int .i64 t] w fun e w' => e = .returned (.int .i64 (extOf l t)) ∧ w = w' := by
  have H := Lib.hid h
  have hln := Lib.hid h.len
  have hfit := h.fits
  clear h
  go_enter Try.func59, Try.ntmps59
  go_wp2_with fail
  go_loop [5] (fun i => ∃ j : Nat, j ≤ n ∧ i = .int .i64 j ∧ ¬ t ∈ tagsX (l.take j)) (fun i => n - (intOf i).toNat)
  case atStart => exact ⟨0, Nat.zero_le _, rfl, by simp [tagsX]⟩
  case round =>
    obtain ⟨j, hj, rfl, hno⟩ := hrel
    have HN := Lib.hid hno
    clear hno
    by_cases hlt : j < n
    · obtain ⟨b, o, p, m, e, k, y, rfl, hx, hc0, hc1, hN, hr⟩ := H.out.at_ hlt
      by_cases hk : k = t
      · have HE : Hid (extOf l k = j) := Lib.hid (by
          rw [extOf_yes (tags_mem hx)]
          have := first_at (tags_at hx) (by rw [← tagsX_take]; rw [hk]; exact HN.out)
          rw [this])
        subst hk
        clear hx hN
        go_wp2_with fail
        go_ret
        exact ⟨by rw [HE.out]; rfl, rfl⟩
      · have hb : (k == t) = false := by simpa using hk
        have HS : Hid (¬ t ∈ tagsX (l.take (j + 1))) := Lib.hid (by
          rw [tags_take hx]
          intro hm
          rcases List.mem_append.1 hm with q | q
          · exact HN.out q
          · have : t = k := by simpa using q
            exact hk this.symm)
        clear hx hN hk
        go_wp2_with fail
        go_round
        case rel => exact ⟨j + 1, by omega, by go_num, HS.out⟩
        case measure => simp [intOf]; omega
    · obtain rfl : j = n := by omega
      have h1 := HN.out
      rw [List.take_of_length_le (by rw [hln.out]; omega)] at h1
      have HE := Lib.hid (extOf_no h1)
      clear h1
      go_wp2_with fail
      go_ret
      exact ⟨by rw [HE.out]; rfl, rfl⟩
end Go.Proofs.Ytcmjadfpifpknaa
namespace Go.Proofs.Ytcmjadfpifpknaa
open Go.ChangeShapes Go.WideShapes Go.ChangeAt Go.RowKit
set_option linter.unusedVariables false
set_option linter.unusedSimpArgs false

theorem areX_twice {l : List Vl} {j : Nat} {x : Vl} (hx : l[j]? = some x) (h : (tagsX l).idxOf x.num < j) : areX l = false := by
  cases e : areX l with
  | false => rfl
  | true => exact absurd h (nodup_first.1 (areX_parts.1 e).2.2 j x.num (tags_at hx))
theorem areX_end {l : List Vl} (h : ∀ q x, l[q]? = some x → okX x = true ∧ ¬ (tagsX l).idxOf x.num < q) : areX l = decide (l.length ≤ 6) := by
  by_cases h6 : l.length ≤ 6
  · rw [decide_eq_true h6, areX_parts]
    refine ⟨h6, fun x hx => ?_, nodup_first.2 fun q z hz => ?_⟩
    · obtain ⟨q, hq⟩ := List.mem_iff_getElem?.1 hx
      exact (h q x hq).1
    · have hq : q < l.length := by
        have := (List.getElem?_eq_some_iff.1 hz).1
        rwa [tagsX_len] at this
      have e := tags_at (List.getElem?_eq_getElem hq)
      rw [hz] at e
      cases e
      exact (h q _ (List.getElem?_eq_getElem hq)).2
  · rw [decide_eq_false h6]
    exact areX_long (by omega)
set_option maxHeartbeats 4000000 in
set_option maxRecDepth 100000 in
theorem specAreExts_any {a : Option Addr} {n c : Nat} {l : List Vl} {w : World} (h : Vals w a n l) :
    Calls Try.prog 33 #[.slice a n c] w fun e w' => e = .returned (.bool (areX l)) ∧ w = w' := by
  have H := Lib.hid h
  have hln := Lib.hid h.len
  have hfit := h.fits
  clear h
  go_enter Try.func33, Try.ntmps33
  go_wp2_with fail
  go_loop [3] (fun i => ∃ j : Nat, j ≤ n ∧ i = .int .i64 j ∧ (∀ q x, q < j → l[q]? = some x → okX x = true ∧ ¬ (tagsX l).idxOf x.num < q)) (fun i => n - (intOf i).toNat)
  case atStart => exact ⟨0, Nat.zero_le _, rfl, fun q x hq => by omega⟩
  case round =>
    obtain ⟨j, hj, rfl, hok⟩ := hrel
    have HK := Lib.hid hok
    clear hok
    by_cases hlt : j < n
    · obtain ⟨b, o, p, m, e, k, y, rfl, hx, hc0, hc1, hN, hr⟩ := H.out.at_ hlt
      have hm := hN.len
      have hmf := hN.fits
      have HX := Lib.hid hx
      have KB := Lib.hid (fun w0 (hb : w = w0) => by subst hb; exact l9Byte_any (c := e) hN)
      have KE := Lib.hid (specExtOf_any (c := c) k H.out)
      rw [extOf_yes (tags_mem hx)] at KE
      by_cases hk : 0 ≤ k ∧ k ≤ 255
      · have KI := Lib.hid (fun w0 => l1R_t (decide_eq_true hk) w0)
        by_cases h4 : 4 < m
        · have HE : Hid (areX l = false) := Lib.hid (okX_stop HX.out (by
            unfold okX fitIts; dsimp only
            rw [decide_eq_false (show ¬ (y.length : Int) ≤ 4 by omega)]
            simp))
          clear hx hN hk hm KB KE
          go_wp2_with (go_at_call 46; refine (KI.out _).mono ?_; rintro e w' ⟨rfl, rfl⟩)
          go_ret
          exact ⟨by rw [HE.out]; rfl, rfl⟩
        · cases ha : allIn y 255 with
          | false =>
            have HE : Hid (areX l = false) := Lib.hid (okX_stop HX.out (by
              unfold okX fitIts; dsimp only
              rw [ha]
              simp))
            rw [ha] at KB
            clear hx hN hk hm KE ha
            go_wp2_with (first | (go_at_call 46; refine (KI.out _).mono ?_; rintro e w' ⟨rfl, rfl⟩) | (go_at_call 58; refine (KB.out _ rfl).mono ?_; rintro e w' ⟨rfl, rfl⟩))
            go_ret
            exact ⟨by rw [HE.out]; rfl, rfl⟩
          | true =>
            have HO : Hid (okX ⟨k, y⟩ = true) := Lib.hid (by
              unfold okX fitIts; dsimp only
              rw [ha, decide_eq_true hk, decide_eq_true (show (y.length : Int) ≤ 4 by omega)]
              rfl)
            rw [ha] at KB
            obtain ⟨r, hr2⟩ : ∃ r, r = (tagsX l).idxOf k := ⟨_, rfl⟩
            rw [← hr2] at KE
            by_cases hlo : r < j
            · have HE : Hid (areX l = false) := Lib.hid (areX_twice HX.out (by rw [← hr2]; exact hlo))
              clear hx hN hk hm ha hr2
              go_wp2_with (first | (go_at_call 46; refine (KI.out _).mono ?_; rintro e w' ⟨rfl, rfl⟩) | (go_at_call 58; refine (KB.out _ rfl).mono ?_; rintro e w' ⟨rfl, rfl⟩) | (go_at_call 59; refine KE.out.mono ?_; rintro e w' ⟨rfl, rfl⟩))
              go_ret
              exact ⟨by rw [HE.out]; rfl, rfl⟩
            · have HS : Hid (∀ q x, q < j + 1 → l[q]? = some x → okX x = true ∧ ¬ (tagsX l).idxOf x.num < q) := Lib.hid (fun q x hq hxq => by
                by_cases e : q = j
                · subst e
                  rw [HX.out] at hxq
                  cases hxq
                  exact ⟨HO.out, by rw [← hr2]; exact hlo⟩
                · exact HK.out q x (by omega) hxq)
              clear hx hN hk hm ha hr2
              go_wp2_with (first | (go_at_call 46; refine (KI.out _).mono ?_; rintro e w' ⟨rfl, rfl⟩) | (go_at_call 58; refine (KB.out _ rfl).mono ?_; rintro e w' ⟨rfl, rfl⟩) | (go_at_call 59; refine KE.out.mono ?_; rintro e w' ⟨rfl, rfl⟩))
              go_round
              case rel => exact ⟨j + 1, by omega, by go_num, HS.out⟩
              case measure => simp [intOf]; omega
      · have KI := Lib.hid (fun w0 => l1R_t (decide_eq_false hk) w0)
        have HE : Hid (areX l = false) := Lib.hid (okX_stop HX.out (by unfold okX; dsimp only; rw [decide_eq_false hk]; rfl))
        clear hx hN hk hm KB KE
        go_wp2_with (go_at_call 46; refine (KI.out _).mono ?_; rintro e w' ⟨rfl, rfl⟩)
        go_ret
        exact ⟨by rw [HE.out]; rfl, rfl⟩
    · obtain rfl : j = n := by omega
      have HE : Hid (areX l = decide ((j : Int) ≤ 6)) := Lib.hid (by
        rw [areX_end (fun q x hx => HK.out q x (by have := lt_of_some hx; rw [hln.out] at this; exact this) hx), hln.out]
        by_cases h : j ≤ 6
        · rw [decide_eq_true h, decide_eq_true (by omega)]
        · rw [decide_eq_false h, decide_eq_false (by omega)])
      go_wp2_with fail
      go_ret
      exact ⟨by rw [HE.out]; rfl, rfl⟩
set_option maxHeartbeats 2000000 in
set_option maxRecDepth 100000 in
theorem specTagsOf_any {a : Option Addr} {n c : Nat} {l : List Vl} {w : World} (h : Vals w a n l) (hn : n ≤ 1048576000) :
    Calls Try.prog 57 #[.slice a n c] w (Made .i64 3 w.heap.size (tagsX l) w) := by
  have H := Lib.hid h
  have hln := Lib.hid h.len
  clear h
  obtain ⟨i0, hi, hz0, hz1, hz2⟩ := info_parts infoIntS
  have HI := Lib.hid (And.intro hi (And.intro hz0 (And.intro hz1 hz2)))
  clear hi hz0 hz1 hz2
  have HO : Hid (Own .i64 3 (w.alloc (.cells #[] 3)) w.heap.size (some ⟨w.heap.size, 0, none⟩) 0 0 (tagsX (l.take 0))) := Lib.hid (by rw [List.take_zero]; exact Own.empty (Nat.le_refl _))
  have HB : Hid (Below w.heap.size w (w.alloc (.cells #[] 3))) := Lib.hid (alloc_same _ _)
  go_enter Try.func57, Try.ntmps57
  go_wp2_with fail
  go_loopw [3, 4] (fun v i wr => ∃ (j : Nat) (q : Option Addr) (d : Nat), j ≤ n ∧ i = .int .i64 j ∧ v = .slice q j d ∧ Own .i64 3 wr w.heap.size q j d (tagsX (l.take j)) ∧ Below w.heap.size w wr) (fun _ i _ => n - (intOf i).toNat)
  case atStart => exact ⟨0, _, _, Nat.zero_le _, rfl, rfl, HO.out, HB.out⟩
  case round =>
    obtain ⟨j, q, d, hj, rfl, rfl, hown, hb⟩ := hrel
    have HO2 := Lib.hid hown
    have HB2 := Lib.hid hb
    clear hown hb
    by_cases hlt : j < n
    · obtain ⟨b, o, p, m, e, k, y, rfl, hx, hc0, hc1, hN, hr⟩ := (H.out.same HB2.out).at_ hlt
      have HX : Hid (tagsX (l.take (j + 1)) = tagsX (l.take j) ++ [k]) := Lib.hid (tags_take hx)
      have hsz := HB2.out.size
      clear hx hN
      go_wp2_with (at_builtin; refine wpl_app _ rfl (.tmp 12) (.tmp 18) 22 rfl .i64 3 i0 (.int .i64 0) 8 Try.underlying22 HI.out.1 HI.out.2.1 HI.out.2.2.1 HI.out.2.2.2 rfl rfl (HO2.out.alloc _) rfl (nums_new _ _ _ _) (by omega) ?c1 ?c2 ?_)
      case c1 => omega
      case c2 => simp; omega
      intro a3 c3 w3 ho3 hb3
      have HO3 : Hid (Own .i64 3 w3 w.heap.size a3 (j + 1) c3 (tagsX (l.take (j + 1)))) := Lib.hid (by rw [HX.out]; exact ho3)
      have HB3 : Hid (Below w.heap.size w w3) := Lib.hid (HB2.out.trans (((alloc_same wr _).mono hsz).trans hb3))
      clear ho3 hb3 hc0 hc1
      go_wp2_with fail
      go_roundw
      case rel => exact ⟨j + 1, a3, c3, by omega, by go_num, rfl, HO3.out, HB3.out⟩
      case measure => simp [intOf]; omega
    · obtain rfl : j = n := by omega
      go_wp2
      go_ret
      have h1 := HO2.out
      rw [List.take_of_length_le (by rw [hln.out]; omega)] at h1
      exact ⟨_, _, _, rfl, h1, HB2.out⟩
end Go.Proofs.Ytcmjadfpifpknaa
