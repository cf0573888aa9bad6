/- An extension copied, by the program; the extensions whose tags are asked for. -/
import Derived.Test.YtnjjfagokbbelaaAre
import Derived.Test.YtnjjfagokbbelaaExtS
import Derived.Test.YtnjjfagokbbelaaValB
import Derived.Test.YtnjjfagokbbelaaRfI
namespace Go.Proofs.Ytnjjfagokbbelaa
open Go.ChangeShapes Go.WideShapes Go.ChangeAt Go.RowKit
set_option linter.unusedVariables false
set_option linter.unusedSimpArgs false

/-- What a function leaves that makes an extension. -/
def MadeX (tI : TypeId) (k : Int) (y : List Int) (w : World) (e : Ending) (w' : World) : Prop :=
  ∃ q m d, e = .returned (.agg #[.int .i64 k, .slice q m d]) ∧ Own .i64 tI w' w.heap.size q m d y ∧ Below w.heap.size w w'
set_option maxHeartbeats 4000000 in
set_option maxRecDepth 100000 in
theorem copyExt_any (k : Int) (p : Option Addr) (m c : Nat) (y : List Int) (w : World) (h : Nums .i64 w p m y) (hm : m ≤ 1048576000) :
    Calls Try.prog 89 #[.agg #[.int .i64 k, .slice p m c]] w (MadeX 3 k y w) := by
  obtain ⟨i0, hi, hz0, hz1, hz2⟩ := info_parts infoIntS
  have HI := Lib.hid (And.intro hi (And.intro hz0 (And.intro hz1 hz2)))
  clear hi hz0 hz1 hz2
  obtain ⟨hsz, hX, hM, hB⟩ := two w #[.int .i64 k, .slice p m c] #[.int .i64 0, .slice none 0 0] 57 57
  have HN := Lib.hid (h.same hB)
  have HB := Lib.hid hB
  clear h hB
  go_enter Try.func89, Try.ntmps89
  go_wp2_with fail
  generalize (w.alloc (.cells #[.int .i64 k, .slice p m c] 57)).alloc (.cells #[.int .i64 0, .slice none 0 0] 57) = W0 at *
  have C0 := Lib.hid ((block_cell hX 0).trans rfl)
  have C1 := Lib.hid ((block_cell hX 1).trans rfl)
  have HM := Lib.hid hM
  have hszB := HB.out.size
  clear hX hM
  have HQ : Hid (Below W0.heap.size W0 (W0.alloc (.cells #[] 3)).drew) := Lib.hid (alloc_same _ _).drew
  have HO2 : Hid (Own .i64 3 (W0.alloc (.cells #[] 3)).drew W0.heap.size (some ⟨W0.heap.size, 0, none⟩) 0 0 []) := Lib.hid ((Own.empty (Nat.le_refl _)).same (Below.refl _ _).drew)
  have hs2 : W0.heap.size ≤ (W0.alloc (.cells #[] 3)).drew.heap.size := HQ.out.size
  go_region_held3 (fun w9 => w9.cell? ⟨w.heap.size, 0, none⟩ = some (.int .i64 k) ∧ w9.cell? ⟨w.heap.size, 1, none⟩ = some (.slice p m c)) (first | exact ⟨cell_stay C0.out (Below.refl _ _).drew, cell_stay C1.out (Below.refl _ _).drew⟩ | exact ⟨cell_stay C0.out HQ.out, cell_stay C1.out HQ.out⟩ | exact ⟨cell_stay C0.out HB3.out, cell_stay C1.out HB3.out⟩ | exact ⟨cell_off (cell_stay C0.out HB3.out) ((set_grown _ _ _ _).trans (set_grown _ _ _ _)) (by simp), cell_off (cell_stay C1.out HB3.out) ((set_grown _ _ _ _).trans (set_grown _ _ _ _)) (by simp)⟩) ((first | (refine step_app_g _ (by rfl) (.tmp 5) (.tmp 7) 26 (by rfl) .i64 3 i0 (.int .i64 0) 8 Try.underlying26 HI.out.1 HI.out.2.1 HI.out.2.2.1 HI.out.2.2.2 rfl (by rfl) HO2.out (by rfl) (HN.out.same HQ.out) (by omega) (by omega) hs2 ?_; intro a3 c3 w3 ho3 hg3 hl3; have HO3 := Lib.hid ho3; have HB3 : Hid (Below W0.heap.size W0 w3) := Lib.hid (grown_to hg3 HQ.out HO2.out.span (Nat.le_refl _) hs2); have hM3 : w3.heap[w.heap.size + 1]? = some (.cells #[.int .i64 0, .slice none 0 0] 57 (0, 0)) := (HB3.out.block _ (by omega)).trans HM.out; obtain ⟨m0, m1, g0, g1⟩ := two_cells hM3; clear ho3 hg3 hl3)))
  obtain ⟨z0, z1, hZ⟩ := two_put hM3 (.int .i64 k) (.slice a3 m c3)
  have HS3 := Lib.hid HO3.out.span
  have HG3 : Hid (Below w.heap.size w w3) := Lib.hid (HB.out.trans (HB3.out.mono hszB))
  have hs3 := HB3.out.size
  clear hM3 m0 m1 g0 g1 hZ
  go_wp2_with fail
  (try simp only [Exit.inBlock, Exit.then])
  refine bodyPost_ret (by simp [results, Try.results89, go_sem, z0, z1]; try rfl) rfl ?_
  have hd : ∀ ad, a3 = some ad → ad.block ≠ w.heap.size + 1 := fun ad e => by
    have := (HS3.out ad e).1
    omega
  have h9 := ((HO3.out.lower hszB).set hd 0 (.int .i64 k)).set hd 1 (.slice a3 m c3)
  rw [Nat.zero_add] at h9
  exact ⟨_, _, _, rfl, h9, (HG3.out.setCell (by dsimp only; omega) _).setCell (by dsimp only; omega) _⟩
/-- The extensions whose tags are asked for. -/
def whX (f : Int → Bool) (l : List Vl) : List Vl := l.filter fun x => f x.num
theorem knownOf_wh (l : List Vl) (ts : List Int) : knownOf l ts = whX (fun k => decide (k ∈ ts)) l := rfl
theorem wh_yes {f : Int → Bool} {l : List Vl} {j : Nat} {x : Vl} (hx : l[j]? = some x) (h : f x.num = true) : whX f (l.take (j + 1)) = whX f (l.take j) ++ [x] := by
  rw [List.take_add_one, hx]
  simp [whX, h]
theorem wh_no {f : Int → Bool} {l : List Vl} {j : Nat} {x : Vl} (hx : l[j]? = some x) (h : f x.num = false) : whX f (l.take (j + 1)) = whX f (l.take j) := by
  rw [List.take_add_one, hx]
  simp [whX, h]
theorem wh_few (f : Int → Bool) (l : List Vl) : (whX f l).length ≤ l.length := List.length_filter_le _ _
theorem wh_items (f : Int → Bool) : ∀ (l : List Vl), itemsOf (whX f l) ≤ itemsOf l
  | [] => Nat.le_refl _
  | x :: t => by
    have := wh_items f t
    unfold whX itemsOf at *
    rw [List.filter_cons]
    split <;> simp <;> omega
theorem known_yes {l : List Vl} {ts : List Int} {j : Nat} {x : Vl} (hx : l[j]? = some x) (h : x.num ∈ ts) : knownOf (l.take (j + 1)) ts = knownOf (l.take j) ts ++ [x] := by
  rw [List.take_add_one, hx]
  simp [knownOf, h]
theorem known_no {l : List Vl} {ts : List Int} {j : Nat} {x : Vl} (hx : l[j]? = some x) (h : ¬ x.num ∈ ts) : knownOf (l.take (j + 1)) ts = knownOf (l.take j) ts := by
  rw [List.take_add_one, hx]
  simp [knownOf, h]
theorem known_few (l : List Vl) (ts : List Int) : (knownOf l ts).length ≤ l.length := List.length_filter_le _ _
theorem known_items : ∀ (l : List Vl) (ts : List Int), itemsOf (knownOf l ts) ≤ itemsOf l
  | [], _ => Nat.le_refl _
  | x :: t, ts => by
    have := known_items t ts
    unfold knownOf itemsOf at *
    rw [List.filter_cons]
    split <;> simp <;> omega
end Go.Proofs.Ytnjjfagokbbelaa
