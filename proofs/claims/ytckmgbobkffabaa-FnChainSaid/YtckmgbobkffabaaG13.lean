/- The key of a move; the index of the first move with a key: by the program. The moves by their keys, in a map that the call makes: by the program. -/
import Derived.Test.YtckmgbobkffabaaG11
import Derived.Test.YtckmgbobkffabaaG12
import Derived.Deep.RegionHeld3
import Derived.Deep.QuietTactic
import Derived.BigQuiet
import Derived.RegionTactic
import Derived.Handy
import Derived.Maps.OwnSet
import Derived.Test.YtckmgbobkffabaaG1
namespace Go.Proofs.Ytckmgbobkffabaa
open Go.ChangeShapes Go.WideShapes Go.ChangeAt Go.RowKit
set_option linter.unusedVariables false
set_option linter.unusedSimpArgs false

set_option maxRecDepth 100000 in
theorem key_any (x : Mv) (w : World) : Calls Try.prog 89 #[x.val] w (Told (.agg #[.int .i64 x.frm, .bool x.send, .int .i64 x.msg]) w) := by
 unfold Mv.val
 go_enter Try.func89, Try.ntmps89
 go_wp2
 go_returns
 exact ⟨rfl, ((Below.refl _ w).alloc (Nat.le_refl _) _).alloc (by simp) _⟩

theorem four_at {w : World} {g : Nat} {t : TypeId} {a b c d : Value} (h : w.heap[g]? = some (.cells #[a, b, c, d] t (0, 0))) :
  w.cell? ⟨g, 0, none⟩ = some a ∧ w.cell? ⟨g, 1, none⟩ = some b ∧ w.cell? ⟨g, 2, none⟩ = some c ∧ w.cell? ⟨g, 3, none⟩ = some d :=
 ⟨(block_cell h 0).trans rfl, (block_cell h 1).trans rfl, (block_cell h 2).trans rfl, (block_cell h 3).trans rfl⟩
set_option maxHeartbeats 1000000 in
set_option maxRecDepth 100000 in
/-- The library's IndexFunc, for a closure that is told by a contract of its own. -/
theorem indexTurn_any {ptr : Value} {p : Mv → Bool} {a : Option Addr} {n c : Nat} {l : List Mv} {w : World} (h : Mvs w a n l)
  (HF : ∀ (x : Mv) (w' : World), Below w.heap.size w w' → Calls Try.prog 88 #[x.val, ptr] w' (Told (.bool (p x)) w')) :
  Calls Try.prog 107 #[.slice a n c, .func (.func 88) #[] #[ptr]] w (Told (.int .i64 (firstAt p l)) w) := by
 have H := Lib.hid h
 have hl := h.len
 have hfit := h.fits
 have HC := Lib.hid HF
 clear h HF
 go_enter Try.func107, Try.ntmps107
 go_wp2_with fail
 go_loopw [8] (fun i wr => ∃ j : Nat, j ≤ n ∧ i = .int .i64 j ∧ (l.take j).any p = false ∧ Below w.heap.size w wr) (fun i _ => n - (intOf i).toNat)
 case atStart => exact ⟨0, Nat.zero_le _, rfl, by simp, Below.refl _ _⟩
 case round =>
  obtain ⟨j, hj, rfl, hno, hb⟩ := hrel
  have HN := Lib.hid hno
  have HB := Lib.hid hb
  clear hno hb
  by_cases hlt : j < n
  ·obtain ⟨b1, o1, x, rfl, hx, hc0, hc1, hc2, hc3⟩ := mvs_at (H.out.same HB.out) hlt
   have HR := HC.out x wr HB.out
   unfold Mv.val at HR
   cases hk : p x with
   | true =>
    have HE := Lib.hid (firstAt_hit hx HN.out hk)
    rw [hk] at HR
    have HQ := Lib.hid HR
    clear hx hk HR
    go_wp2_with fail
    refine HQ.out.mono ?_
    rintro e w2 ⟨rfl, hb2⟩
    have HB2 := Lib.hid (HB.out.trans (hb2.mono HB.out.size))
    clear hb2
    go_wp2_with fail
    go_ret
    exact ⟨by rw [HE.out]; try rfl, HB2.out⟩
   | false =>
    have HS : Hid ((l.take (j + 1)).any p = false) := Lib.hid (by
     rw [List.take_add_one, hx, List.any_append, HN.out]
     simp [hk])
    rw [hk] at HR
    have HQ := Lib.hid HR
    clear hx hk HR
    go_wp2_with fail
    refine HQ.out.mono ?_
    rintro e w2 ⟨rfl, hb2⟩
    have HB2 := Lib.hid (HB.out.trans (hb2.mono HB.out.size))
    clear hb2
    go_wp2_with fail
    go_roundw
    case rel => exact ⟨j + 1, by omega, by go_num, HS.out, HB2.out⟩
    case measure => simp [intOf]; omega
  ·obtain rfl : j = n := by omega
   have h1 := HN.out
   rw [List.take_of_length_le (by omega)] at h1
   have HE := Lib.hid (firstAt_none h1)
   clear h1
   go_wp2_with fail
   go_ret
   exact ⟨by rw [HE.out]; try rfl, HB.out⟩

end Go.Proofs.Ytckmgbobkffabaa
namespace Go.Proofs.Ytckmgbobkffabaa
open Go.ChangeShapes Go.WideShapes Go.ChangeAt Go.RowKit
set_option linter.unusedVariables false
set_option linter.unusedSimpArgs false

/-- How an element of the map is read: as it is. -/
def heldR (v : Value) : Option (DataW Value × List MemPlace) := some (.held v, [])
/-- Block g is a map of the moves of l by their keys, the last one of each. -/
def ByKey (w : World) (g n : Nat) (l : List Mv) : Prop := w.ownsMap Try.prog 103 heldR g n (mr l.reverse)
def Keyed2 (l : List Mv) : Prop := ∀ x ∈ l, (Lit.int .i64 x.frm).wf = true ∧ (Lit.int .i64 x.msg).wf = true
section
variable {P : Program}
/-- 'm[k] = v' at a step of a region that draws its order. -/
theorem step_put {H : Type} {w : World} {ops : Array Oper} {o : Oper} {a : Act} {K' : Act → World → Prop} {Q : Exit → Act → World → Prop} {E : Prop}
  (hg : o.guard = none) (m x v : Operand) (t : TypeId) (hop : o.op = Op.mapUpdate t m x v)
  (k e : TypeId) (K : Maps.Keyed P k) (ht : P.underlying t = some (.map k e)) (R : Value → Option (DataW H × List MemPlace)) (b n : Nat) (D : DataW H)
  (hm : a.eval m = .map (some b)) (hown : w.ownsMap P k R b n D) (hn : n < maxLen) (key val : Value) (kl : Lit) (hx : a.eval x = key) (hv : a.eval v = val) (hkey : keyOf P k key = some kl)
  (d : DataW H) (ps : List MemPlace) (hval : R val = some (d, ps))
  (hK : ∀ w', w'.ownsMap P k R b (n + 1) (D.put kl d) → w.grownBy w' (some b) → K' (a.put o.dst undef) w') :
  if Region.wanted o (yielded ops a.tmps) = true then Oper.wp P o a w K' Q else E := by
 have hw : Region.wanted o (yielded ops a.tmps) = true := by simp [Region.wanted, hg]
 rw [if_pos hw]
 obtain ⟨w', hrun, r1, r2⟩ := hown.update K ht hn hkey hval
 unfold Oper.wp
 simp [execOp, hop, hm, hx, hv, hrun, Result.andThen]
 exact hK w' r1 r2
end
theorem run_makeHint (n : Nat) (w : World) : (Instr.makeMap 66 (some (.int .i64 (n : Int)))).run Try.prog w = .ok (.map (some w.heap.size)) (w.alloc (.map #[] 0)) := by
 simp [Instr.makeMap, run_underlying Try.underlying66, asInt, asIntOf, Result.andThen]

set_option maxHeartbeats 2000000 in
set_option maxRecDepth 100000 in
theorem movesByKey_any {a : Option Addr} {n c : Nat} {l : List Mv} {w : World} (h : Mvs w a n l) (hk : Keyed2 l) (hn : n ≤ 1000000000) :
  Calls Try.prog 54 #[.slice a n c] w fun e w' => e = .returned (.map (some w.heap.size)) ∧ ByKey w' w.heap.size n l ∧ Below w.heap.size w w' := by
 have H := Lib.hid h
 have hl := Lib.hid h.len
 have HK := Lib.hid hk
 clear h hk
 have hmk := run_makeHint n w
 go_enter Try.func54, Try.ntmps54
 go_wp2_with fail
 clear hmk
 have HB0 := Lib.hid (alloc_same w (.map #[] 0))
 have HM0 := Lib.hid (World.ownsMap_made w Try.prog 103 heldR)
 go_loopw [11] (fun i wr => ∃ j : Nat, j ≤ n ∧ i = .int .i64 j ∧ ByKey wr w.heap.size j (l.take j) ∧ Below w.heap.size w wr) (fun i _ => n - (intOf i).toNat)
 case atStart => exact ⟨0, Nat.zero_le _, rfl, HM0.out, HB0.out⟩
 case round =>
  obtain ⟨j, hj, rfl, hm, hb⟩ := hrel
  have HM := Lib.hid hm
  have HB := Lib.hid hb
  clear hm hb
  by_cases hlt : j < n
  ·obtain ⟨b1, o1, x, rfl, hx, hc0, hc1, hc2, hc3⟩ := mvs_at (H.out.same HB.out) hlt
   have hwf := HK.out x (List.mem_of_getElem? hx)
   have HX : Hid ((l.take (j + 1)).reverse = x :: (l.take j).reverse) := Lib.hid (by rw [List.take_add_one, hx]; simp)
   have HKR := Lib.hid (key_read x.send hwf.1 hwf.2)
   clear hx hwf
   go_wp2_with fail
   have hA := heap_alloc_new wr (.cells #[.int .i64 x.frm, .bool x.send, .int .i64 x.msg, .int .i64 x.to] 63 (0, 0))
   have HBA : Hid (Below w.heap.size w (wr.alloc (.cells #[.int .i64 x.frm, .bool x.send, .int .i64 x.msg, .int .i64 x.to] 63))) := Lib.hid (HB.out.alloc HB.out.size _)
   have HMA : Hid (ByKey (wr.alloc (.cells #[.int .i64 x.frm, .bool x.send, .int .i64 x.msg, .int .i64 x.to] 63)) w.heap.size j (l.take j)) := Lib.hid (HM.out.alloc _)
   have hlm : w.heap.size < wr.heap.size := HM.out.lt
   obtain ⟨G, hG⟩ : ∃ G, G = wr.heap.size := ⟨_, rfl⟩
   have hGG : w.heap.size ≠ G := by omega
   have C := Lib.hid (four_at hA)
   rw [← hG] at C ⊢
   clear hA hc0 hc1 hc2 hc3 hlm hG
   generalize (wr.alloc (.cells #[.int .i64 x.frm, .bool x.send, .int .i64 x.msg, .int .i64 x.to] 63)) = W0 at *
   refine wp_region_held_drew (S := fun w9 => w9.cell? ⟨G, 0, none⟩ = some (.int .i64 x.frm) ∧ w9.cell? ⟨G, 1, none⟩ = some (.bool x.send) ∧ w9.cell? ⟨G, 2, none⟩ = some (.int .i64 x.msg) ∧ w9.cell? ⟨G, 3, none⟩ = some (.int .i64 x.to)) (by kernel_rfl) ⟨cell_stay C.out.1 (Below.refl _ W0).drew, cell_stay C.out.2.1 (Below.refl _ W0).drew, cell_stay C.out.2.2.1 (Below.refl _ W0).drew, cell_stay C.out.2.2.2 (Below.refl _ W0).drew⟩ (fun hHeld => ?_)
   refine wpAnyH_take (i := 0) (v := ?v1) (by simp only [get9]; rfl) (by kernel_rfl) (by kernel_rfl) (by kernel_rfl) (by exact fun _ _ _ h => h) (Or.inl ⟨by rfl, fun w9 hS9 => ?hy1⟩) hHeld ?rest1
   case hy1 =>
    dsimp only at hS9
    obtain ⟨q0, q1, q2, q3⟩ := hS9
    go_simp
    try with_reducible rfl
   try simp only [Act.put, set9]
   refine wpAnyH_take (i := 1) (v := ?v2) (by simp only [get9]; rfl) (by kernel_rfl) (by kernel_rfl) (by kernel_rfl) (by exact fun _ _ _ h => h) (Or.inl ⟨by rfl, fun w9 hS9 => ?hy2⟩) hHeld ?rest2
   case hy2 =>
    dsimp only at hS9
    obtain ⟨q0, q1, q2, q3⟩ := hS9
    go_simp
    try with_reducible rfl
   try simp only [Act.put, set9]
   refine wpAnyH_take (i := 3) (v := ?v3) (by simp only [get9]; rfl) (by kernel_rfl) (by kernel_rfl) (by kernel_rfl) (by exact fun _ _ _ h => h) (Or.inl ⟨by rfl, fun w9 hS9 => ?hy3⟩) hHeld ?rest3
   case hy3 =>
    dsimp only at hS9
    obtain ⟨q0, q1, q2, q3⟩ := hS9
    go_simp
    try with_reducible rfl
   try simp only [Act.put, set9]
   refine wpAnyH_ready (rs := [2]) (by kernel_rfl) (by simp) (AllReadyH.cons (by simp only [get9]; rfl) (fun K hK => ?_) AllReadyH.nil)
   go_simp
   refine (key_any x _).mono ?_
   rintro e w2 ⟨rfl, hb2⟩
   have HD2 := Lib.hid hb2
   have HB2 : Hid (Below W0.heap.size W0 w2) := Lib.hid ((Below.refl _ W0).drew.trans hb2)
   have HM2 : Hid (ByKey w2 w.heap.size j (l.take j)) := Lib.hid (World.ownsMap.kept (World.ownsMap.drew HMA.out) (grown_below hb2 none) (by simp))
   clear hb2
   go_wp2_with fail
   refine hK.out _ _ ⟨cell_stay C.out.1 HB2.out, cell_stay C.out.2.1 HB2.out, cell_stay C.out.2.2.1 HB2.out, cell_stay C.out.2.2.2 HB2.out⟩ (fun hHeld => ?_)
   clear hK K
   try simp only [Act.put, set9]
   refine wpAnyH_ready (rs := [4]) (by kernel_rfl) (by simp) (AllReadyH.cons (by simp only [get9]; rfl) (fun K hK => ?_) AllReadyH.nil)
   refine step_put (by rfl) (.tmp 15) (.tmp 17) (.tmp 18) 66 (by rfl) 103 63 key_law Try.underlying66 heldR w.heap.size j _ (by rfl) HM2.out (by unfold maxLen; omega) _ _ _ (by rfl) (by rfl) HKR.out (.held x.val) [] rfl ?_
   intro w3 hown3 hg3
   have HG3 := Lib.hid hg3
   have HM3 : Hid (ByKey w3 w.heap.size (j + 1) (l.take (j + 1))) := Lib.hid (by unfold ByKey; rw [HX.out]; exact hown3)
   clear hown3 hg3
   refine hK.out _ _ ⟨cell_apart (cell_stay C.out.1 HB2.out) HG3.out (by simpa using hGG), cell_apart (cell_stay C.out.2.1 HB2.out) HG3.out (by simpa using hGG), cell_apart (cell_stay C.out.2.2.1 HB2.out) HG3.out (by simpa using hGG), cell_apart (cell_stay C.out.2.2.2 HB2.out) HG3.out (by simpa using hGG)⟩ (fun hHeld => ?_)
   clear hK K
   try simp only [Act.put, set9]
   refine wpAnyH_done (by kernel_rfl) ?_ _
   have HF : Hid (Below w.heap.size w w3) := Lib.hid ((HBA.out.trans (HB2.out.mono HBA.out.size)).grown HG3.out (by have := HBA.out.size; have := HB2.out.size; omega) (fun r e => by cases e; exact Nat.le_refl _))
   go_wp2_with fail
   go_roundw
   case rel => exact ⟨j + 1, by omega, by go_num, HM3.out, HF.out⟩
   case measure => simp [intOf]; omega
  ·obtain rfl : j = n := by omega
   have HF : Hid (ByKey wr w.heap.size j l) := Lib.hid (by
    have h1 := HM.out
    rw [List.take_of_length_le (by have := hl.out; omega)] at h1
    exact h1)
   go_wp2_with fail
   go_ret
   exact ⟨rfl, HF.out, HB.out⟩
end Go.Proofs.Ytckmgbobkffabaa
