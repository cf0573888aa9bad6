/- The reserved tag that a seed picks: by the program and by the model. A number repeated at most twice, by the library's own text. What a seed inserts among extensions: whether, which and where, by the program. What a seed inserts among extensions, as a record: by the program. An extension with a reserved tag added: by the program. -/
import Derived.Test.YtgkacnngodamgaaG15
import Derived.Test.YtgkacnngodamgaaG14
import Derived.Deep.QuietTactic
import Derived.BigQuiet
import Derived.Test.YtgkacnngodamgaaG8
import Derived.Test.YtgkacnngodamgaaG9
namespace Go.Proofs.Ytgkacnngodamgaa
open Go.ChangeShapes Go.WideShapes Go.ChangeAt Go.RowKit
set_option linter.unusedVariables false

set_option maxRecDepth 100000 in
theorem greaseTag_any (s : Int) (hs : Fit64 s) (w : World) : Calls Try.prog 23 #[.int .i64 s] w (Told (.int .i64 (tagG s)) w) := by
  have HP := Lib.hid (pickOf_any s 0 16 w hs (fit_mk (by omega) (by omega)) (fit_mk (by omega) (by omega)))
  have hb := tagG_bd s
  have HE : Hid (tagG s = 16 * pickOf s 0 16 + 10) := Lib.hid rfl
  generalize tagG s = t at HE ⊢
  generalize pickOf s 0 16 = p at HE HP hb
  go_enter Try.func23, Try.ntmps23
  go_wp2_with fail
  refine HP.out.mono ?_
  rintro e w1 ⟨rfl, hb1⟩
  have HB := Lib.hid hb1
  clear hb1 HP
  have hw1 : IntKind.i64.wrap (16 * p) = 16 * p := by rw [IntKind.wrap_i64]; omega
  have hw2 : IntKind.i64.wrap (16 * p + 10) = 16 * p + 10 := by rw [IntKind.wrap_i64]; omega
  go_wp2_with fail
  go_ret
  exact ⟨by rw [HE.out]; rfl, HB.out⟩
set_option maxRecDepth 100000 in
theorem specGreaseTag_any (s : Int) (hs : Fit64 s) (w : World) : Calls Try.prog 72 #[.int .i64 s] w (Told (.int .i64 (tagG s)) w) := by
  have HP := Lib.hid (specPickOf_any s 0 16 w hs (fit_mk (by omega) (by omega)) (fit_mk (by omega) (by omega)))
  have hb := tagG_bd s
  have HE : Hid (tagG s = 16 * pickOf s 0 16 + 10) := Lib.hid rfl
  generalize tagG s = t at HE ⊢
  generalize pickOf s 0 16 = p at HE HP hb
  go_enter Try.func72, Try.ntmps72
  go_wp2_with fail
  refine HP.out.mono ?_
  rintro e w1 ⟨rfl, hb1⟩
  have HB := Lib.hid hb1
  clear hb1 HP
  have hw1 : IntKind.i64.wrap (16 * p) = 16 * p := by rw [IntKind.wrap_i64]; omega
  have hw2 : IntKind.i64.wrap (16 * p + 10) = 16 * p + 10 := by rw [IntKind.wrap_i64]; omega
  go_wp2_with fail
  go_ret
  exact ⟨by rw [HE.out]; rfl, HB.out⟩
end Go.Proofs.Ytgkacnngodamgaa
namespace Go.Proofs.Ytgkacnngodamgaa
open Go.ChangeShapes Go.WideShapes Go.ChangeAt Go.RowKit
open Go.Proofs (wpList_copy_runI step_copy_runI)
set_option linter.unusedVariables false

set_option maxRecDepth 100000 in
theorem mulBits_small (y : Int) (h0 : 0 ≤ y) (h2 : y ≤ 2) (w : World) :
    Calls Try.prog 100 #[.int .u64 1, .int .u64 y] w fun e w' => e = .returned (.tuple #[.int .u64 0, .int .u64 y]) ∧ w' = w := by
  have hy : y = 0 ∨ y = 1 ∨ y = 2 := by omega
  rcases hy with rfl | rfl | rfl
  · go_enter Try.func100, Try.ntmps100
    go_wp2
    go_ret2
    exact ⟨rfl, rfl⟩
  · go_enter Try.func100, Try.ntmps100
    go_wp2
    go_ret2
    exact ⟨rfl, rfl⟩
  · go_enter Try.func100, Try.ntmps100
    go_wp2
    go_ret2
    exact ⟨rfl, rfl⟩

/-- A block of the call's own that holds just these integers. -/
theorem own_ints {w : World} {B q n : Nat} {l : List Int} (hB : B ≤ q) (hl : l.length = n) (hn : n ≤ 1000) (hq : w.heap[q]? = some (.cells (l.map fun z => Value.int .i64 z).toArray 3 (0, 0))) : Own .i64 3 w B (some ⟨q, 0, none⟩) n n l :=
  ⟨hl, by simp [hl], .inr ⟨q, n, _, rfl, hB, hq, Nat.le_refl _, by unfold maxLen; omega, by simp [hl], List.take_of_length_le (by simp [hl])⟩⟩
set_option maxHeartbeats 2000000 in
set_option maxRecDepth 100000 in
theorem repeat0 (x : Int) {b : Nat} {w : World} (h : w.cell? ⟨b, 0, none⟩ = some (.int .i64 x)) (hb : b < w.heap.size) :
    Calls Try.prog 85 #[.slice (some ⟨b, 0, none⟩) 1 1, .int .i64 0] w (Made .i64 3 w.heap.size (List.replicate 0 x) w) := by
  obtain ⟨i0, hi, hz0, hz1, hz2⟩ := info_parts infoIntS
  have HI := Lib.hid (And.intro hi (And.intro hz0 (And.intro hz1 hz2)))
  have HM := Lib.hid (mulBits_small 0 (by omega) (by omega) w)
  clear hi hz0 hz1 hz2
  go_enter Try.func85, Try.ntmps85
  go_wp2_with fail
  refine HM.out.mono ?_
  rintro e w1 ⟨rfl, rfl⟩
  go_wp2_with (with_reducible refine wpList_make_full _ rfl (.tmp 29) (.tmp 29) 26 rfl w1.heap.size 3 i0 (.int .i64 0) 1 Try.underlying26 HI.out.1 HI.out.2.1 HI.out.2.2.1 .i64 .i64 _ _ 0 rfl rfl rfl rfl ?c2 ?c3 ?c4 ?_)
  case c2 => rw [HI.out.2.2.2]; omega
  case c3 => unfold maxLen; omega
  case c4 => exact Nat.le_refl _
  intro w2 hrow hgrow
  have hb2 : Below w1.heap.size w1 w2 := (Below.refl _ w1).grown hgrow (Nat.le_refl _) (fun _ e => by cases e)
  rcases hrow.2 with ⟨e, _⟩ | ⟨q', cap, zs, e, _, hqz, _, _, hzs, _⟩
  · cases e
  cases e
  have h2 := cell_stay h hb2
  have hne : b ≠ w1.heap.size := by omega
  have hcp1 : ∀ ty dc sc, (Builtin.copy_ #[26, 26] ty #[.slice (some ⟨w1.heap.size, 0, none⟩) 0 dc, .slice (some ⟨b, 0, none⟩) 1 sc]).run Try.prog w2 = .ok (goInt ((0 : Nat) : Int)) (w2.setRow w1.heap.size (putAt 0 [] zs.toList).toArray) := fun ty dc sc =>
    run_copyAt (P := Try.prog) w2 26 26 ty 3 i0 Try.underlying26 HI.out.1 HI.out.2.2.1 (o := 0) (nd := 0) (dc := dc) (ns := 1) (sc := sc) (ad := ⟨b, 0, none⟩) (F := []) hqz 0 rfl rfl (fun j v hj => by
      rw [addr_add0, Nat.zero_add]
      simp at hj) (by rw [hzs]; simp) (by intro v hv; simp at hv)
  obtain ⟨W3, hW3⟩ : ∃ W3, W3 = w2.setRow w1.heap.size (putAt 0 [] zs.toList).toArray := ⟨_, rfl⟩
  rw [← hW3] at hcp1
  have hz : zs.toList = [] := List.eq_nil_of_length_eq_zero (by rw [Array.length_toList, hzs])
  have hq3 : W3.heap[w1.heap.size]? = some (.cells (([] : List Int).map fun z => Value.int .i64 z).toArray 3 (0, 0)) := by rw [hW3, setRow_heap _ _ _ _ _ _ hqz, hz]; rfl
  have HW : Hid (Made .i64 3 w1.heap.size (List.replicate 0 x) w1 (.returned (.slice (some ⟨w1.heap.size, 0, none⟩) 0 0)) W3) := Lib.hid ⟨_, _, _, rfl, own_ints (Nat.le_refl _) rfl (by omega) hq3, by rw [hW3]; exact below_setRow hb2 (Nat.le_refl _) _⟩
  clear hW3 hq3 hz hrow hgrow
  go_wp2_with (at_builtin; refine wpList_copy_runI _ rfl _ _ 26 26 rfl _ _ rfl rfl (hcp1 _ _ _) ?_)
  go_loopw [8] (fun v wr => v = .int .i64 0 ∧ wr = W3) (fun _ _ => 0)
  case atStart => exact ⟨rfl, rfl⟩
  case round =>
    obtain ⟨rfl, rfl⟩ := hrel
    go_wp2_with fail
    go_ret
    exact HW.out
set_option maxHeartbeats 2000000 in
set_option maxRecDepth 100000 in
theorem repeat1 (x : Int) {b : Nat} {w : World} (h : w.cell? ⟨b, 0, none⟩ = some (.int .i64 x)) (hb : b < w.heap.size) :
    Calls Try.prog 85 #[.slice (some ⟨b, 0, none⟩) 1 1, .int .i64 1] w (Made .i64 3 w.heap.size (List.replicate 1 x) w) := by
  obtain ⟨i0, hi, hz0, hz1, hz2⟩ := info_parts infoIntS
  have HI := Lib.hid (And.intro hi (And.intro hz0 (And.intro hz1 hz2)))
  have HM := Lib.hid (mulBits_small 1 (by omega) (by omega) w)
  clear hi hz0 hz1 hz2
  go_enter Try.func85, Try.ntmps85
  go_wp2_with fail
  refine HM.out.mono ?_
  rintro e w1 ⟨rfl, rfl⟩
  go_wp2_with (with_reducible refine wpList_make_full _ rfl (.tmp 29) (.tmp 29) 26 rfl w1.heap.size 3 i0 (.int .i64 0) 1 Try.underlying26 HI.out.1 HI.out.2.1 HI.out.2.2.1 .i64 .i64 _ _ 1 rfl rfl rfl rfl ?c2 ?c3 ?c4 ?_)
  case c2 => rw [HI.out.2.2.2]; omega
  case c3 => unfold maxLen; omega
  case c4 => exact Nat.le_refl _
  intro w2 hrow hgrow
  have hb2 : Below w1.heap.size w1 w2 := (Below.refl _ w1).grown hgrow (Nat.le_refl _) (fun _ e => by cases e)
  rcases hrow.2 with ⟨e, _⟩ | ⟨q', cap, zs, e, _, hqz, _, _, hzs, _⟩
  · cases e
  cases e
  have h2 := cell_stay h hb2
  have hne : b ≠ w1.heap.size := by omega
  have hcp1 : ∀ ty dc sc, (Builtin.copy_ #[26, 26] ty #[.slice (some ⟨w1.heap.size, 0, none⟩) 1 dc, .slice (some ⟨b, 0, none⟩) 1 sc]).run Try.prog w2 = .ok (goInt ((1 : Nat) : Int)) (w2.setRow w1.heap.size (putAt 0 [.int .i64 x] zs.toList).toArray) := fun ty dc sc =>
    run_copyAt (P := Try.prog) w2 26 26 ty 3 i0 Try.underlying26 HI.out.1 HI.out.2.2.1 (o := 0) (nd := 1) (dc := dc) (ns := 1) (sc := sc) (ad := ⟨b, 0, none⟩) (F := [.int .i64 x]) hqz 1 rfl rfl (fun j v hj => by
      rw [addr_add0, Nat.zero_add]
      rcases j with _ | j
      · simp at hj; rw [← hj]; exact h2
      · simp at hj) (by rw [hzs]; simp) (by intro v hv; simp at hv; rw [hv]; rfl)
  obtain ⟨W3, hW3⟩ : ∃ W3, W3 = w2.setRow w1.heap.size (putAt 0 [.int .i64 x] zs.toList).toArray := ⟨_, rfl⟩
  rw [← hW3] at hcp1
  have hz : putAt 0 [.int .i64 x] zs.toList = [Value.int .i64 x] := by
    unfold putAt
    rw [List.drop_of_length_le (by rw [Array.length_toList, hzs]; simp)]
    rfl
  have hq3 : W3.heap[w1.heap.size]? = some (.cells (([x] : List Int).map fun z => Value.int .i64 z).toArray 3 (0, 0)) := by rw [hW3, setRow_heap _ _ _ _ _ _ hqz, hz]; rfl
  have HW : Hid (Made .i64 3 w1.heap.size (List.replicate 1 x) w1 (.returned (.slice (some ⟨w1.heap.size, 0, none⟩) 1 1)) W3) := Lib.hid ⟨_, _, _, rfl, own_ints (Nat.le_refl _) rfl (by omega) hq3, by rw [hW3]; exact below_setRow hb2 (Nat.le_refl _) _⟩
  clear hW3 hq3 hz hrow hgrow
  go_wp2_with (at_builtin; refine wpList_copy_runI _ rfl _ _ 26 26 rfl _ _ rfl rfl (hcp1 _ _ _) ?_)
  go_loopw [8] (fun v wr => v = .int .i64 1 ∧ wr = W3) (fun _ _ => 0)
  case atStart => exact ⟨rfl, rfl⟩
  case round =>
    obtain ⟨rfl, rfl⟩ := hrel
    go_wp2_with fail
    go_ret
    exact HW.out
set_option maxHeartbeats 2000000 in
set_option maxRecDepth 100000 in
theorem repeat2 (x : Int) {b : Nat} {w : World} (h : w.cell? ⟨b, 0, none⟩ = some (.int .i64 x)) (hb : b < w.heap.size) :
    Calls Try.prog 85 #[.slice (some ⟨b, 0, none⟩) 1 1, .int .i64 2] w (Made .i64 3 w.heap.size (List.replicate 2 x) w) := by
  obtain ⟨i0, hi, hz0, hz1, hz2⟩ := info_parts infoIntS
  have HI := Lib.hid (And.intro hi (And.intro hz0 (And.intro hz1 hz2)))
  have HM := Lib.hid (mulBits_small 2 (by omega) (by omega) w)
  clear hi hz0 hz1 hz2
  go_enter Try.func85, Try.ntmps85
  go_wp2_with fail
  refine HM.out.mono ?_
  rintro e w1 ⟨rfl, rfl⟩
  go_wp2_with (with_reducible refine wpList_make_full _ rfl (.tmp 29) (.tmp 29) 26 rfl w1.heap.size 3 i0 (.int .i64 0) 1 Try.underlying26 HI.out.1 HI.out.2.1 HI.out.2.2.1 .i64 .i64 _ _ 2 rfl rfl rfl rfl ?c2 ?c3 ?c4 ?_)
  case c2 => rw [HI.out.2.2.2]; omega
  case c3 => unfold maxLen; omega
  case c4 => exact Nat.le_refl _
  intro w2 hrow hgrow
  have hb2 : Below w1.heap.size w1 w2 := (Below.refl _ w1).grown hgrow (Nat.le_refl _) (fun _ e => by cases e)
  rcases hrow.2 with ⟨e, _⟩ | ⟨q', cap, zs, e, _, hqz, _, _, hzs, _⟩
  · cases e
  cases e
  have h2 := cell_stay h hb2
  have hne : b ≠ w1.heap.size := by omega
  have hcp1 : ∀ ty dc sc, (Builtin.copy_ #[26, 26] ty #[.slice (some ⟨w1.heap.size, 0, none⟩) 2 dc, .slice (some ⟨b, 0, none⟩) 1 sc]).run Try.prog w2 = .ok (goInt ((1 : Nat) : Int)) (w2.setRow w1.heap.size (putAt 0 [.int .i64 x] zs.toList).toArray) := fun ty dc sc =>
    run_copyAt (P := Try.prog) w2 26 26 ty 3 i0 Try.underlying26 HI.out.1 HI.out.2.2.1 (o := 0) (nd := 2) (dc := dc) (ns := 1) (sc := sc) (ad := ⟨b, 0, none⟩) (F := [.int .i64 x]) hqz 1 rfl rfl (fun j v hj => by
      rw [addr_add0, Nat.zero_add]
      rcases j with _ | j
      · simp at hj; rw [← hj]; exact h2
      · simp at hj) (by rw [hzs]; simp) (by intro v hv; simp at hv; rw [hv]; rfl)
  obtain ⟨W3, hW3⟩ : ∃ W3, W3 = w2.setRow w1.heap.size (putAt 0 [.int .i64 x] zs.toList).toArray := ⟨_, rfl⟩
  rw [← hW3] at hcp1
  obtain ⟨z1, hz⟩ : ∃ z1, putAt 0 [.int .i64 x] zs.toList = [Value.int .i64 x, z1] := by
    have hl : zs.toList.length = 2 := by rw [Array.length_toList, hzs]
    rcases e : zs.toList with _ | ⟨a0, _ | ⟨a1, _ | ⟨a2, r⟩⟩⟩
    · rw [e] at hl; simp at hl
    · rw [e] at hl; simp at hl
    · exact ⟨a1, rfl⟩
    · rw [e] at hl; simp at hl
  have hq3 : W3.heap[w1.heap.size]? = some (.cells #[.int .i64 x, z1] 3 (0, 0)) := by rw [hW3, setRow_heap _ _ _ _ _ _ hqz, hz]
  have hq3d : W3.drew.heap[w1.heap.size]? = some (.cells #[.int .i64 x, z1] 3 (0, 0)) := hq3
  obtain ⟨W4, hW4⟩ : ∃ W4, W4 = W3.drew.setRow w1.heap.size #[.int .i64 x, .int .i64 x] := ⟨_, rfl⟩
  have hcp2 : ∀ ty dc sc, (Builtin.copy_ #[26, 26] ty #[.slice (some ⟨w1.heap.size, 1, none⟩) 1 dc, .slice (some ⟨w1.heap.size, 0, none⟩) 1 sc]).run Try.prog W3.drew = .ok (goInt ((1 : Nat) : Int)) W4 := fun ty dc sc => by
    have h := run_copyAt (P := Try.prog) W3.drew 26 26 ty 3 i0 Try.underlying26 HI.out.1 HI.out.2.2.1 (o := 1) (nd := 1) (dc := dc) (ns := 1) (sc := sc) (ad := ⟨w1.heap.size, 0, none⟩) (F := [.int .i64 x]) hq3d 1 rfl rfl (fun j v hj => by
      rw [addr_add0, Nat.zero_add]
      rcases j with _ | j
      · simp at hj; rw [← hj]; exact (block_cell hq3d 0).trans rfl
      · simp at hj) (by simp) (by intro v hv; simp at hv; rw [hv]; rfl)
    rw [h, hW4]
    rfl
  have hq4 : W4.heap[w1.heap.size]? = some (.cells (([x, x] : List Int).map fun z => Value.int .i64 z).toArray 3 (0, 0)) := by rw [hW4, setRow_heap _ _ _ _ _ _ hq3d]; rfl
  have HW : Hid (Made .i64 3 w1.heap.size (List.replicate 2 x) w1 (.returned (.slice (some ⟨w1.heap.size, 0, none⟩) 2 2)) W4) := Lib.hid ⟨_, _, _, rfl, own_ints (Nat.le_refl _) rfl (by omega) hq4, by rw [hW4, hW3]; exact below_setRow (below_setRow hb2 (Nat.le_refl _) _).drew (Nat.le_refl _) _⟩
  have mixed : Try.prog.follows .mixedOrders = true := by rfl
  clear hW3 hq3 hz hrow hgrow hW4 hq4 hq3d
  go_wp2_with (at_builtin; refine wpList_copy_runI _ rfl _ _ 26 26 rfl _ _ rfl rfl (hcp1 _ _ _) ?_)
  go_loopw [8] (fun v wr => ∃ j : Int, v = .int .i64 j ∧ (j = 1 ∧ wr = W3 ∨ j = 2 ∧ wr = W4)) (fun v _ => 2 - (intOf v).toNat)
  case atStart => exact ⟨1, rfl, Or.inl ⟨rfl, rfl⟩⟩
  case round =>
    obtain ⟨j, rfl, ⟨rfl, rfl⟩ | ⟨rfl, rfl⟩⟩ := hrel
    · go_wp2_with fail
      go_region_law_o (refine step_copy_runI rfl _ _ 26 26 rfl (.slice (some ⟨w1.heap.size, 1, none⟩) 1 1) (.slice (some ⟨w1.heap.size, 0, none⟩) 1 2) (by simp [Act.eval, Act.put]) (by simp [Act.eval, Act.put]) (hcp2 3 1 2) ?_)
      go_wp2_with fail
      go_roundw
      case rel => exact ⟨.int .i64 2, _, _, _, _, _, _, _, _, _, _, _, _, _, ⟨2, rfl, Or.inr ⟨rfl, trivial⟩⟩, rfl⟩
      case measure =>
        show 2 - 2 < 2 - 1
        decide
    · go_wp2_with fail
      go_ret
      exact HW.out
end Go.Proofs.Ytgkacnngodamgaa
namespace Go.Proofs.Ytgkacnngodamgaa
open Go.ChangeShapes Go.WideShapes Go.ChangeAt Go.RowKit
set_option linter.unusedVariables false
set_option linter.unusedSimpArgs false

theorem repeat_any (x : Int) (n : Nat) (hn : n ≤ 2) {b : Nat} {w : World} (h : w.cell? ⟨b, 0, none⟩ = some (.int .i64 x)) (hb : b < w.heap.size) :
    Calls Try.prog 85 #[.slice (some ⟨b, 0, none⟩) 1 1, .int .i64 (n : Nat)] w (Made .i64 3 w.heap.size (List.replicate n x) w) := by
  have hc : n = 0 ∨ n = 1 ∨ n = 2 := by omega
  rcases hc with rfl | rfl | rfl
  · exact repeat0 x h hb
  · exact repeat1 x h hb
  · exact repeat2 x h hb
set_option maxHeartbeats 2000000 in
set_option maxRecDepth 100000 in
theorem greaseExt_any (t i x : Int) (n : Nat) (hn : n ≤ 2) (w : World) :
    Calls Try.prog 62 #[.agg #[.int .i64 t, .int .i64 i, .int .i64 (n : Nat), .int .i64 x]] w (MadeX 3 t (List.replicate n x) w) := by
  obtain ⟨hsz, hX, hM, hB⟩ := two w #[.int .i64 t, .int .i64 i, .int .i64 (n : Nat), .int .i64 x] #[.int .i64 0, .slice none 0 0] 80 57
  have HB := Lib.hid hB
  clear hB
  go_enter Try.func62, Try.ntmps62
  go_wp2_with fail
  generalize (w.alloc (.cells #[.int .i64 t, .int .i64 i, .int .i64 (n : Nat), .int .i64 x] 80)).alloc (.cells #[.int .i64 0, .slice none 0 0] 57) = W0 at *
  have C0 := Lib.hid ((block_cell hX 0).trans rfl)
  have C2 := Lib.hid ((block_cell hX 2).trans rfl)
  have C3 := Lib.hid ((block_cell hX 3).trans rfl)
  have HM := Lib.hid hM
  have hszB := HB.out.size
  clear hX hM
  have HQ : Hid (Below W0.heap.size W0 (W0.alloc (.cells #[.int .i64 x] 3)).drew) := Lib.hid (alloc_same _ _).drew
  have hcc : (W0.alloc (.cells #[.int .i64 x] 3)).drew.cell? ⟨W0.heap.size, 0, none⟩ = some (.int .i64 x) := block_cell (heap_alloc_new W0 _) 0
  have hlt : W0.heap.size < (W0.alloc (.cells #[.int .i64 x] 3)).drew.heap.size := by
    show W0.heap.size < (W0.alloc (.cells #[.int .i64 x] 3)).heap.size
    simp
  have HR := Lib.hid (repeat_any x n hn hcc hlt)
  unfold Made at HR
  clear hcc
  go_region_held3 (fun w9 => w9.cell? ⟨w.heap.size, 0, none⟩ = some (.int .i64 t) ∧ w9.cell? ⟨w.heap.size, 2, none⟩ = some (.int .i64 (n : Nat)) ∧ w9.cell? ⟨w.heap.size, 3, none⟩ = some (.int .i64 x)) (first | exact ⟨cell_stay C0.out (Below.refl _ _).drew, cell_stay C2.out (Below.refl _ _).drew, cell_stay C3.out (Below.refl _ _).drew⟩ | exact ⟨cell_stay C0.out HQ.out, cell_stay C2.out HQ.out, cell_stay C3.out HQ.out⟩ | exact ⟨cell_stay C0.out HB3.out, cell_stay C2.out HB3.out, cell_stay C3.out HB3.out⟩ | exact ⟨cell_off (cell_stay C0.out HB3.out) ((set_grown _ _ _ _).trans (set_grown _ _ _ _)) (by simp), cell_off (cell_stay C2.out HB3.out) ((set_grown _ _ _ _).trans (set_grown _ _ _ _)) (by simp), cell_off (cell_stay C3.out HB3.out) ((set_grown _ _ _ _).trans (set_grown _ _ _ _)) (by simp)⟩) ((first | (go_at_call 85; refine HR.out.mono ?_; rintro e w3 ⟨a3, m3, c3, rfl, ho3, hb3⟩; have HO3 := Lib.hid ho3; have HB3 : Hid (Below W0.heap.size W0 w3) := Lib.hid (HQ.out.trans (hb3.mono (Nat.le_of_lt hlt))); have hM3 : w3.heap[w.heap.size + 1]? = some (.cells #[.int .i64 0, .slice none 0 0] 57 (0, 0)) := (HB3.out.block _ (by omega)).trans HM.out; obtain ⟨m0, m1, g0, g1⟩ := two_cells hM3; clear ho3 hb3)))
  obtain ⟨z0, z1, hZ⟩ := two_put hM3 (.int .i64 t) (.slice a3 m3 c3)
  have HS3 := Lib.hid HO3.out.span
  have HG3 : Hid (Below w.heap.size w w3) := Lib.hid (HB.out.trans (HB3.out.mono hszB))
  have hs3 := HB3.out.size
  clear hM3 m0 m1 g0 g1 hZ
  go_wp2_with fail
  (try simp only [Exit.inBlock, Exit.then])
  refine bodyPost_ret (by simp [results, Try.results62, go_sem, z0, z1]; try rfl) rfl ?_
  have hd : ∀ ad, a3 = some ad → ad.block ≠ w.heap.size + 1 := fun ad e => by
    have := (HS3.out ad e).1
    omega
  have hml : m3 = n := by
    have := HO3.out.len
    simpa using this.symm
  have h9 := ((HO3.out.lower (B' := w.heap.size) (by omega)).set hd 0 (.int .i64 t)).set hd 1 (.slice a3 m3 c3)
  exact ⟨_, _, _, rfl, h9, (HG3.out.setCell (by dsimp only; omega) _).setCell (by dsimp only; omega) _⟩
end Go.Proofs.Ytgkacnngodamgaa
namespace Go.Proofs.Ytgkacnngodamgaa
open Go.ChangeShapes Go.WideShapes Go.ChangeAt Go.RowKit
set_option linter.unusedVariables false
set_option linter.unusedSimpArgs false

theorem four_cells {w : World} {g : Nat} {t : TypeId} {a b c d : Value} (h : w.heap[g]? = some (.cells #[a, b, c, d] t (0, 0))) :
    (w.cell? ⟨g, 0, none⟩ = some a ∧ w.cell? ⟨g, 1, none⟩ = some b ∧ w.cell? ⟨g, 2, none⟩ = some c ∧ w.cell? ⟨g, 3, none⟩ = some d) ∧
    (w.frozen? ⟨g, 0, none⟩ = false ∧ w.frozen? ⟨g, 1, none⟩ = false ∧ w.frozen? ⟨g, 2, none⟩ = false ∧ w.frozen? ⟨g, 3, none⟩ = false) :=
  ⟨⟨(block_cell h 0).trans rfl, (block_cell h 1).trans rfl, (block_cell h 2).trans rfl, (block_cell h 3).trans rfl⟩, block_frozen h 0, block_frozen h 1, block_frozen h 2, block_frozen h 3⟩
theorem four_put {w : World} {g : Nat} {t : TypeId} {a b c d : Value} (h : w.heap[g]? = some (.cells #[a, b, c, d] t (0, 0))) (p q r s : Value) :
    ((((w.setCell ⟨g, 0, none⟩ p).setCell ⟨g, 1, none⟩ q).setCell ⟨g, 2, none⟩ r).setCell ⟨g, 3, none⟩ s).heap[g]? = some (.cells #[p, q, r, s] t (0, 0)) := by
  have h1 := heap_setCell_same w g 0 _ _ p h
  have h2 := heap_setCell_same _ g 1 _ _ q h1
  have h3 := heap_setCell_same _ g 2 _ _ r h2
  exact heap_setCell_same _ g 3 _ _ s h3
/-- The record: which tag, where, how many bytes, which byte. Nothing: all zero. -/
def gOf (l : List Vl) (s : Int) : Value :=
  if wantG l s then .agg #[.int .i64 (tagG s), .int .i64 (placeG l s : Nat), .int .i64 (sizeG s : Nat), .int .i64 (pickOf s 3 256)]
  else .agg #[.int .i64 0, .int .i64 0, .int .i64 0, .int .i64 0]
set_option maxHeartbeats 4000000 in
set_option maxRecDepth 100000 in
theorem greaseOf_any {a : Option Addr} {n c : Nat} {l : List Vl} (s : Int) (hs : Fit64 s) {w : World} (h : Vals w a n l) (hz : ∀ z ∈ tagsX l, (Lit.int .i64 z).wf = true) (hn : n ≤ 1048576000) :
    Calls Try.prog 60 #[.slice a n c, .int .i64 s] w (Told (gOf l s) w) := by
  have H := Lib.hid h
  have hln := h.len
  have hM : (w.alloc (.cells #[.int .i64 0, .int .i64 0, .int .i64 0, .int .i64 0] 80)).heap[w.heap.size]? = some (.cells #[.int .i64 0, .int .i64 0, .int .i64 0, .int .i64 0] 80 (0, 0)) := heap_alloc_new w _
  have HA := Lib.hid (alloc_same w (.cells #[.int .i64 0, .int .i64 0, .int .i64 0, .int .i64 0] 80))
  have hsz : w.heap.size + 1 = (w.alloc (.cells #[.int .i64 0, .int .i64 0, .int .i64 0, .int .i64 0] 80)).heap.size := by simp
  have ht := tagG_in s
  have htw : (Lit.int .i64 (tagG s)).wf = true := fit_mk (by omega) (by omega)
  clear h
  go_enter Try.func60, Try.ntmps60
  go_wp2_with fail
  generalize (w.alloc (.cells #[.int .i64 0, .int .i64 0, .int .i64 0, .int .i64 0] 80)) = W0 at *
  have HM := Lib.hid hM
  clear hM
  refine (greaseTag_any s hs W0).mono ?_
  rintro e w1 ⟨rfl, hb1⟩
  have HB1 := Lib.hid hb1
  have hs1 := hb1.size
  clear hb1
  go_wp2_with fail
  refine (areExts_any (c := c) (H.out.same (HA.out.trans (HB1.out.mono (by omega))))).mono ?_
  rintro e w2 ⟨rfl, hb2⟩
  have HB2 : Hid (Below W0.heap.size W0 w2) := Lib.hid (HB1.out.trans (hb2.mono hs1))
  have hs2 := HB2.out.size
  clear hb2
  cases ha : areX l with
  | false =>
    have hg : gOf l s = .agg #[.int .i64 0, .int .i64 0, .int .i64 0, .int .i64 0] := by unfold gOf wantG; rw [ha]; rfl
    have hM9 := ((HB2).out.block w.heap.size (by omega)).trans HM.out
    obtain ⟨⟨m0, m1, m2, m3⟩, f0, f1, f2, f3⟩ := four_cells hM9
    have HZ := Lib.hid (four_put hM9 (.int .i64 0) (.int .i64 0) (.int .i64 0) (.int .i64 0))
    clear hM9
    go_wp2_with fail
    obtain ⟨⟨z0, z1, z2, z3⟩, _⟩ := four_cells HZ.out
    (try simp only [Exit.inBlock, Exit.then])
    refine bodyPost_ret (by simp [results, Try.results60, go_sem, z0, z1, z2, z3]; try rfl) rfl ?_
    exact ⟨by rw [hg], (((((HA.out.trans ((HB2).out.mono (by omega))).setCell (by dsimp only; omega) _).setCell (by dsimp only; omega) _).setCell (by dsimp only; omega) _).setCell (by dsimp only; omega) _)⟩
  | true =>
    by_cases h6 : n = 6
    · have hg : gOf l s = .agg #[.int .i64 0, .int .i64 0, .int .i64 0, .int .i64 0] := by unfold gOf wantG; rw [decide_eq_false (show ¬ l.length < 6 by omega), Bool.and_false, Bool.false_and]; rfl
      have hq6 : ((n : Int) == 6) = true := by rw [beq_iff_eq]; omega
      have hM9 := ((HB2).out.block w.heap.size (by omega)).trans HM.out
      obtain ⟨⟨m0, m1, m2, m3⟩, f0, f1, f2, f3⟩ := four_cells hM9
      have HZ := Lib.hid (four_put hM9 (.int .i64 0) (.int .i64 0) (.int .i64 0) (.int .i64 0))
      clear hM9
      go_wp2_with fail
      obtain ⟨⟨z0, z1, z2, z3⟩, _⟩ := four_cells HZ.out
      (try simp only [Exit.inBlock, Exit.then])
      refine bodyPost_ret (by simp [results, Try.results60, go_sem, z0, z1, z2, z3]; try rfl) rfl ?_
      exact ⟨by rw [hg], (((((HA.out.trans ((HB2).out.mono (by omega))).setCell (by dsimp only; omega) _).setCell (by dsimp only; omega) _).setCell (by dsimp only; omega) _).setCell (by dsimp only; omega) _)⟩
    · have hq6 : ((n : Int) == 6) = false := by rw [beq_eq_false_iff_ne]; omega
      have hl6 := (areX_parts.1 ha).1
      by_cases hm : tagG s ∈ tagsX l
      · have hg : gOf l s = .agg #[.int .i64 0, .int .i64 0, .int .i64 0, .int .i64 0] := by unfold gOf wantG; rw [decide_eq_false (show ¬ ¬ tagG s ∈ tagsX l from fun h => h hm), Bool.and_false]; rfl
        have HE := Lib.hid (extOf_any (c := c) (tagG s) htw (H.out.same (HA.out.trans (HB2.out.mono (by omega)))) hz hn)
        rw [extOf_yes hm] at HE
        generalize (tagsX l).idxOf (tagG s) = x at HE
        go_wp2_with fail
        refine HE.out.mono ?_
        rintro e w3 ⟨rfl, hb3⟩
        have HB3 : Hid (Below W0.heap.size W0 w3) := Lib.hid (HB2.out.trans (hb3.mono hs2))
        have hs3 := HB3.out.size
        have hx0 : (0 : Int) ≤ (x : Int) := by omega
        clear hb3 HE
        have hM9 := ((HB3).out.block w.heap.size (by omega)).trans HM.out
        obtain ⟨⟨m0, m1, m2, m3⟩, f0, f1, f2, f3⟩ := four_cells hM9
        have HZ := Lib.hid (four_put hM9 (.int .i64 0) (.int .i64 0) (.int .i64 0) (.int .i64 0))
        clear hM9
        go_wp2_with fail
        obtain ⟨⟨z0, z1, z2, z3⟩, _⟩ := four_cells HZ.out
        (try simp only [Exit.inBlock, Exit.then])
        refine bodyPost_ret (by simp [results, Try.results60, go_sem, z0, z1, z2, z3]; try rfl) rfl ?_
        exact ⟨by rw [hg], (((((HA.out.trans ((HB3).out.mono (by omega))).setCell (by dsimp only; omega) _).setCell (by dsimp only; omega) _).setCell (by dsimp only; omega) _).setCell (by dsimp only; omega) _)⟩
      · have hw : wantG l s = true := wantG_parts.2 ⟨ha, by omega, hm⟩
        have hg : gOf l s = .agg #[.int .i64 (tagG s), .int .i64 (placeG l s : Nat), .int .i64 (sizeG s : Nat), .int .i64 (pickOf s 3 256)] := by unfold gOf; rw [hw]; rfl
        rw [placeG_int, sizeG_int, hln] at hg
        have HE := Lib.hid (extOf_any (c := c) (tagG s) htw (H.out.same (HA.out.trans (HB2.out.mono (by omega)))) hz hn)
        rw [extOf_no hm] at HE
        go_wp2_with fail
        refine HE.out.mono ?_
        rintro e w3 ⟨rfl, hb3⟩
        have HB3 : Hid (Below W0.heap.size W0 w3) := Lib.hid (HB2.out.trans (hb3.mono hs2))
        have hs3 := HB3.out.size
        clear hb3 HE
        have hwn : IntKind.i64.wrap ((n : Int) + 1) = (n : Int) + 1 := by rw [IntKind.wrap_i64]; omega
        have hcast : ((n + 1 : Nat) : Int) = (n : Int) + 1 := by omega
        rw [hcast] at hg
        go_wp2_with fail
        refine (pickOf_any s 1 ((n : Int) + 1) w3 hs (fit_mk (by omega) (by omega)) (fit_mk (by omega) (by omega))).mono ?_
        rintro e w4 ⟨rfl, hb4⟩
        have HB4 : Hid (Below W0.heap.size W0 w4) := Lib.hid (HB3.out.trans (hb4.mono hs3))
        have hs4 := HB4.out.size
        clear hb4
        go_wp2_with fail
        refine (pickOf_any s 2 3 w4 hs (fit_mk (by omega) (by omega)) (fit_mk (by omega) (by omega))).mono ?_
        rintro e w5 ⟨rfl, hb5⟩
        have HB5 : Hid (Below W0.heap.size W0 w5) := Lib.hid (HB4.out.trans (hb5.mono hs4))
        have hs5 := HB5.out.size
        clear hb5
        go_wp2_with fail
        refine (pickOf_any s 3 256 w5 hs (fit_mk (by omega) (by omega)) (fit_mk (by omega) (by omega))).mono ?_
        rintro e w6 ⟨rfl, hb6⟩
        have HB6 : Hid (Below W0.heap.size W0 w6) := Lib.hid (HB5.out.trans (hb6.mono hs5))
        have hs6 := HB6.out.size
        clear hb6
        have HG := Lib.hid hg
        clear hg
        generalize tagG s = v0 at *
        generalize pickOf s 1 ((n : Int) + 1) = v1 at *
        generalize pickOf s 2 3 = v2 at *
        generalize pickOf s 3 256 = v3 at *
        have hM9 := ((HB6).out.block w.heap.size (by omega)).trans HM.out
        obtain ⟨⟨m0, m1, m2, m3⟩, f0, f1, f2, f3⟩ := four_cells hM9
        have HZ := Lib.hid (four_put hM9 (.int .i64 v0) (.int .i64 v1) (.int .i64 v2) (.int .i64 v3))
        clear hM9
        go_wp2_with fail
        obtain ⟨⟨z0, z1, z2, z3⟩, _⟩ := four_cells HZ.out
        (try simp only [Exit.inBlock, Exit.then])
        refine bodyPost_ret (by simp [results, Try.results60, go_sem, z0, z1, z2, z3]; try rfl) rfl ?_
        exact ⟨by rw [HG.out], (((((HA.out.trans ((HB6).out.mono (by omega))).setCell (by dsimp only; omega) _).setCell (by dsimp only; omega) _).setCell (by dsimp only; omega) _).setCell (by dsimp only; omega) _)⟩
end Go.Proofs.Ytgkacnngodamgaa
namespace Go.Proofs.Ytgkacnngodamgaa
open Go.ChangeShapes Go.WideShapes Go.ChangeAt Go.RowKit
set_option linter.unusedVariables false
set_option linter.unusedSimpArgs false

set_option maxHeartbeats 4000000 in
set_option maxRecDepth 100000 in
theorem addGrease_any {a : Option Addr} {n c : Nat} {l : List Vl} (s : Int) (hs : Fit64 s) {w : World} (h : Vals w a n l) (hz : ∀ z ∈ tagsX l, (Lit.int .i64 z).wf = true) (hn : n ≤ 1048576) (hit : itemsOf l ≤ 1048576) :
    Calls Try.prog 22 #[.slice a n c, .int .i64 s] w (MadeV 57 3 w.heap.size (addX l s) w) := by
  have HC := Lib.hid (copyExts_any (c := c) h hn hit)
  have H := Lib.hid h
  have hln := h.len
  clear h
  go_enter Try.func22, Try.ntmps22
  go_wp2_with fail
  refine HC.out.mono ?_
  rintro e w1 ⟨g, d, rfl, ho, hb1⟩
  have HO := Lib.hid ho
  have HB1 := Lib.hid hb1
  have hs1 := hb1.size
  have HG := Lib.hid (greaseOf_any (c := c) s hs (H.out.same hb1) hz (by omega))
  clear ho hb1 HC
  cases hw : wantG l s with
  | false =>
    have hg : gOf l s = .agg #[.int .i64 0, .int .i64 0, .int .i64 0, .int .i64 0] := by unfold gOf; rw [hw]; rfl
    have ha : addX l s = l := by unfold addX; rw [hw]; rfl
    have HA := Lib.hid ha
    rw [hg] at HG
    clear hg ha
    go_wp2_with fail
    refine HG.out.mono ?_
    rintro e w2 ⟨rfl, hb2⟩
    have HB2 : Hid (Below w1.heap.size w1 w2) := Lib.hid hb2
    have HR : Hid (OwnV 57 3 (w2.alloc (.cells #[.int .i64 0, .int .i64 0, .int .i64 0, .int .i64 0] 80)) w.heap.size (some ⟨g, 0, none⟩) n d l ∧ Below w.heap.size w (w2.alloc (.cells #[.int .i64 0, .int .i64 0, .int .i64 0, .int .i64 0] 80))) :=
      Lib.hid ⟨(HO.out.same hb2).same (alloc_same _ _), (HB1.out.trans (hb2.mono hs1)).alloc (Nat.le_trans hs1 hb2.size) _⟩
    clear hb2 HG
    go_wp2_with fail
    go_ret
    exact ⟨_, _, _, rfl, by rw [HA.out]; exact HR.out.1, HR.out.2⟩
  | true =>
    obtain ⟨hA, hn6, hnm⟩ := wantG_parts.1 hw
    have hk := placeG_le l s
    have hsz := sizeG_few s
    have ht := tagG_in s
    have hg : gOf l s = .agg #[.int .i64 (tagG s), .int .i64 (placeG l s : Nat), .int .i64 (sizeG s : Nat), .int .i64 (pickOf s 3 256)] := by unfold gOf; rw [hw]; rfl
    have ha : addX l s = l.take (placeG l s) ++ ⟨tagG s, List.replicate (sizeG s) (pickOf s 3 256)⟩ :: l.drop (placeG l s) := by unfold addX; rw [hw]; rfl
    have HA := Lib.hid ha
    rw [hg] at HG
    clear hg ha hw hA hnm
    generalize tagG s = t at *
    generalize placeG l s = k at *
    generalize sizeG s = z at *
    generalize pickOf s 3 256 = x at *
    go_wp2_with fail
    refine HG.out.mono ?_
    rintro e w2 ⟨rfl, hb2⟩
    have HB2 : Hid (Below w1.heap.size w1 w2) := Lib.hid hb2
    have hs2 := hb2.size
    have htz : (t == 0) = false := by rw [beq_eq_false_iff_ne]; omega
    clear hb2 HG
    go_wp2_with fail
    have hM : (w2.alloc (.cells #[.int .i64 t, .int .i64 k, .int .i64 z, .int .i64 x] 80)).heap[w2.heap.size]? = some (.cells #[.int .i64 t, .int .i64 k, .int .i64 z, .int .i64 x] 80 (0, 0)) := heap_alloc_new w2 _
    have hal := alloc_same w2 (.cells #[.int .i64 t, .int .i64 k, .int .i64 z, .int .i64 x] 80)
    have hsz3 : w2.heap.size + 1 = (w2.alloc (.cells #[.int .i64 t, .int .i64 k, .int .i64 z, .int .i64 x] 80)).heap.size := by simp
    generalize (w2.alloc (.cells #[.int .i64 t, .int .i64 k, .int .i64 z, .int .i64 x] 80)) = W3 at *
    have C := Lib.hid (four_cells hM).1
    have HAX : Hid (Below w1.heap.size w1 W3) := Lib.hid (HB2.out.trans (hal.mono hs2))
    have HAL : Hid (Below w1.heap.size w1 W3.drew) := Lib.hid ((HB2.out.trans (hal.mono hs2)).drew)
    have HO3 : Hid (OwnV 57 3 W3.drew w.heap.size (some ⟨g, 0, none⟩) n d l) := Lib.hid (HO.out.same HAL.out)
    have HE := Lib.hid (greaseExt_any t k x z (by omega) W3.drew)
    have hs3 : w.heap.size ≤ W3.drew.heap.size := by have := HAL.out.size; omega
    unfold MadeX at HE
    clear hM hal
    go_region_held3 (fun w9 => w9.cell? ⟨w2.heap.size, 0, none⟩ = some (.int .i64 t) ∧ w9.cell? ⟨w2.heap.size, 1, none⟩ = some (.int .i64 k) ∧ w9.cell? ⟨w2.heap.size, 2, none⟩ = some (.int .i64 z) ∧ w9.cell? ⟨w2.heap.size, 3, none⟩ = some (.int .i64 x)) (first | exact ⟨cell_stay C.out.1 (Below.refl _ _).drew, cell_stay C.out.2.1 (Below.refl _ _).drew, cell_stay C.out.2.2.1 (Below.refl _ _).drew, cell_stay C.out.2.2.2 (Below.refl _ _).drew⟩ | exact ⟨cell_stay C.out.1 HB4.out, cell_stay C.out.2.1 HB4.out, cell_stay C.out.2.2.1 HB4.out, cell_stay C.out.2.2.2 HB4.out⟩ | exact ⟨cell_stay C.out.1 HB5.out, cell_stay C.out.2.1 HB5.out, cell_stay C.out.2.2.1 HB5.out, cell_stay C.out.2.2.2 HB5.out⟩) ((first | (go_at_call 62; refine HE.out.mono ?_; rintro e w4 ⟨q4, m4, d4, rfl, ho4, hb4⟩; have HX4 := Lib.hid ho4; have HD4 := Lib.hid hb4; have HB4 : Hid (Below W3.heap.size W3 w4) := Lib.hid (((Below.refl _ W3).drew).trans hb4); clear ho4 hb4) | (go_at_call 61; refine (insertAt_any (t := t) HO3.out HD4.out hs3 HX4.out (by omega) (by omega)).mono ?_; rintro e w5 ⟨q5, rfl, ho5, hb5⟩; have HO5 := Lib.hid ho5; have HB5 : Hid (Below W3.heap.size W3 w5) := Lib.hid (HB4.out.trans (hb5.mono HB4.out.size)); clear ho5 hb5)))
    go_wp2_with fail
    go_ret
    exact ⟨_, _, _, rfl, by rw [HA.out]; exact HO5.out, HB1.out.trans ((HAX.out.trans (HB5.out.mono HAX.out.size)).mono hs1)⟩
end Go.Proofs.Ytgkacnngodamgaa
