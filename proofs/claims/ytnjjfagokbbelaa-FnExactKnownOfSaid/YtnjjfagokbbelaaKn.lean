/- The extensions whose tag is in a list: by the program. -/
import Derived.Test.YtnjjfagokbbelaaWhK
namespace Go.Proofs.Ytnjjfagokbbelaa
open Go.ChangeShapes Go.WideShapes Go.ChangeAt Go.RowKit
set_option linter.unusedVariables false
set_option linter.unusedSimpArgs false

set_option maxHeartbeats 1000000 in
set_option maxRecDepth 100000 in
theorem knownOf1_told {ts : List Int} {b m P : Nat} (k : Int) (W : World) (hk : (Lit.int .i64 k).wf = true) (hm : W.ownsMap Try.prog 3 (plainElem (H := Unit) Try.prog 3) b m (pl 0 ts)) (hc : W.cell? ⟨P, 0, none⟩ = some (.map (some b))) :
    Calls Try.prog 62 #[.int .i64 k, .pointer (some ⟨P, 0, none⟩)] W (Told (.bool (decide (k ∈ ts))) W) := by
  have hkey := Maps.keyOf_int_mk Try.underlying3 hk
  have HH : Hid (Maps.has (pl 0 ts) (.int .i64 k) = decide (k ∈ ts)) := Lib.hid (pl_has _ _ _)
  have HM := Lib.hid hm
  clear hm
  go_enter Try.func62, Try.ntmps62
  go_wp2_with (at_lookup; refine wpList_lookup_own_ok_int _ rfl _ _ 62 rfl 3 3 .i64 int_keys Try.underlying62 Try.underlying3 (map_zero _) b m (pl 0 ts) rfl HM.out _ _ rfl hkey ?_; intro cc hcc _; rw [HH.out])
  go_ret
  exact ⟨rfl, Below.refl _ _⟩
set_option maxHeartbeats 4000000 in
set_option maxRecDepth 100000 in
theorem knownOf_any {a b : Option Addr} {n c m d : Nat} {l : List Vl} {ts : List Int} {w : World} (h : Vals w a n l) (h' : Nums .i64 w b m ts) (hz : ∀ z ∈ tagsX l, (Lit.int .i64 z).wf = true) (hz' : ∀ z ∈ ts, (Lit.int .i64 z).wf = true) (hn : n ≤ 1048576) (hit : itemsOf l ≤ 1048576) (hm : m ≤ 1048576000) :
    Calls Try.prog 20 #[.slice a n c, .slice b m d] w (MadeV 57 3 w.heap.size (knownOf l ts) w) := by
  have HP := Lib.hid (placesOf_any b m d ts w h' hz' hm)
  have H := Lib.hid h
  clear h h'
  rw [knownOf_wh]
  go_enter Try.func20, Try.ntmps20
  go_wp2_with fail
  refine HP.out.mono ?_
  rintro e w1 ⟨rfl, hown, hb1⟩
  have HM := Lib.hid hown
  have HB1 := Lib.hid hb1
  have hs1 := hb1.size
  have hmlt := hown.lt
  have hal : Below w1.heap.size w1 (w1.alloc (.cells #[.map (some w.heap.size)] 62)) := alloc_same _ _
  have hcl : (w1.alloc (.cells #[.map (some w.heap.size)] 62)).cell? ⟨w1.heap.size, 0, none⟩ = some (.map (some w.heap.size)) := block_cell (heap_alloc_new w1 _) 0
  have HW := Lib.hid (extsWhereK_any (fun k => decide (k ∈ ts)) w1.heap.size (a := a) (n := n) (c := c) (l := l) (w := w1.alloc (.cells #[.map (some w.heap.size)] 62)) ((H.out.same HB1.out).same hal) hz (fun k W hk hb =>
    knownOf1_told k W hk (HM.out.kept (grown_below (hal.trans (hb.mono hal.size)) none) (by simp)) (cell_stay hcl hb)) hn hit)
  have HAL := Lib.hid hal
  clear hown hb1 HP hal hcl
  go_wp2_with fail
  refine HW.out.mono ?_
  rintro e w2 ⟨q, m2, d2, rfl, ho, hb2⟩
  have hs2 := HAL.out.size
  have HR : Hid (MadeV 57 3 w.heap.size (whX (fun k => decide (k ∈ ts)) l) w (.returned (.slice q m2 d2)) w2) := Lib.hid ⟨_, _, _, rfl, ho.lower (by omega), HB1.out.trans ((HAL.out.mono hs1).trans (hb2.mono (by omega)))⟩
  clear ho hb2
  go_wp2_with fail
  go_ret
  exact HR.out
end Go.Proofs.Ytnjjfagokbbelaa
