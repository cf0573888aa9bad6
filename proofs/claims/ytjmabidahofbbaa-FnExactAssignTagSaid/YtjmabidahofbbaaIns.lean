/- An entry inserted, by the library's own text. -/
import Derived.Test.YtjmabidahofbbaaOwnK
import Derived.Test.YtjmabidahofbbaaRt
import Derived.Shelf.Spec.SlicesInsertGrow
import Derived.Laws.CopyOwn
namespace Go.Proofs.Ytjmabidahofbbaa
open Go.ChangeShapes Go.WideShapes Go.ChangeAt Go.RowKit Go.Sort
open Go.Proofs (wpList_copy_runI step_copy_runI)
set_option linter.unusedVariables false

section
variable {P : Program} (w : World)
/-- Whole elements of three cells copied into a block that is known. -/
theorem run_copyB (dT sT ty e : TypeId) (i : TypeInfo) (hu : P.underlying dT = some (.slice e)) (hi : P.info? e = some i) (hsize : i.size = 3) {g o nd dc ns sc : Nat} {ad : Addr} {cur : Array Value} {F : List Value}
    (hg : w.heap[g]? = some (.cells cur e (0, 0))) (m : Nat) (hm : Nat.min ns nd = m) (hF : F.length = m * 3) (hr : ∀ j v, F[j]? = some v → w.cell? (ad.add j) = some v) (hfit : o + F.length ≤ cur.size) (h1 : ∀ v ∈ F, v.oneCell' = true) :
    (Builtin.copy_ #[dT, sT] ty #[.slice (some ⟨g, o, none⟩) nd dc, .slice (some ad) ns sc]).run P w = .ok (goInt (m : Nat)) (w.setRow g (cur.toList.take o ++ F ++ cur.toList.drop (o + F.length)).toArray) := by
  have hld : (loadCells ad (Nat.min ns nd * 3)).run P w = .ok F.toArray w := by
    rw [hm, ← hF]
    exact run_loadCells_list (P := P) w ad F hr
  have hst := run_storeCells_at P g o e F 0 cur w hg (by omega) h1
  rw [Nat.add_zero] at hst
  have hm2 : min ns nd = m := hm
  have hld2 : (loadCells ad (m * 3)).run P w = .ok F.toArray w := by rw [← hm]; exact hld
  simp [Builtin.copy_, run_underlying hu, Builtin.lenOf, Builtin.firstCells, sizeOf, typeInfo, hi, hsize, hm2, hld2, hst]
end
/-- What a copy leaves of a block's cells. -/
def put3 (o : Nat) (F cur : List Value) : List Value := cur.take o ++ F ++ cur.drop (o + F.length)
theorem put3_len {o : Nat} {F cur : List Value} (h : o + F.length ≤ cur.length) : (put3 o F cur).length = cur.length := by
  unfold put3
  simp
  omega
theorem put3_app (A T D F : List Value) (h : T.length = F.length) : put3 A.length F (A ++ T ++ D) = A ++ F ++ D := by
  unfold put3
  rw [List.append_assoc A T D, List.take_left, ← h, ← List.drop_drop, List.drop_left, List.drop_left, List.append_assoc]
/-- An entry pushed in between, in place. -/
theorem put3_shift (A B R E : List Value) (hE : E.length = 3) (hR : 3 ≤ R.length) : put3 A.length E (put3 (A.length + 3) B (A ++ B ++ R)) = A ++ E ++ (B ++ R.drop 3) := by
  have h1 : put3 (A.length + 3) B (A ++ B ++ R) = A ++ (B ++ R).take 3 ++ (B ++ R.drop 3) := by
    unfold put3
    have e1 : (A ++ B ++ R).take (A.length + 3) = A ++ (B ++ R).take 3 := by
      rw [List.append_assoc, List.take_append, List.take_of_length_le (by omega)]
      congr 2; omega
    have e2 : (A ++ B ++ R).drop (A.length + 3 + B.length) = R.drop 3 := by
      rw [show A.length + 3 + B.length = (A ++ B).length + 3 by simp; omega, ← List.drop_drop, List.drop_left]
    rw [e1, e2, List.append_assoc, List.append_assoc]
  rw [h1]
  exact put3_app A _ (B ++ R.drop 3) E (by rw [hE, List.length_take]; simp; omega)
theorem put3_grow (A Z E B : List Value) (hE : E.length = 3) (hZ : 3 + B.length ≤ Z.length) : put3 (A.length + 3) B (put3 A.length E (A ++ Z)) = A ++ E ++ (B ++ Z.drop (3 + B.length)) := by
  have h1 : put3 A.length E (A ++ Z) = A ++ E ++ Z.drop 3 := by
    have : A ++ Z = A ++ Z.take 3 ++ Z.drop 3 := by rw [List.append_assoc, List.take_append_drop]
    rw [this]
    exact put3_app A (Z.take 3) (Z.drop 3) E (by rw [hE, List.length_take]; omega)
  rw [h1]
  have h2 : A ++ E ++ Z.drop 3 = (A ++ E) ++ (Z.drop 3).take B.length ++ (Z.drop 3).drop B.length := by rw [List.append_assoc (A ++ E), List.take_append_drop]
  rw [h2]
  have h3 : A.length + 3 = (A ++ E).length := by simp [hE]
  rw [h3, put3_app (A ++ E) _ _ B (by rw [List.length_take, List.length_drop]; omega), List.drop_drop]
  simp [List.append_assoc]

/-- The cells of such a slice, and what lies behind it in its block. -/
theorem own_block {t : TypeId} {w : World} {B g n c : Nat} {l : List En} (h : OwnN t w B (some ⟨g, 0, none⟩) n c l) :
    ∃ R cur, w.heap[g]? = some (.cells cur t (0, 0)) ∧ cur.toList = flatOf En.enc l ++ R ∧ R.length = (c - n) * 3 ∧ B ≤ g ∧ n ≤ c ∧ c ≤ maxLen := by
  rcases h.row.2 with ⟨e, _⟩ | ⟨g', cap, cur, e, hb, hg, hn, hm, hs, ht⟩
  · cases e
  · cases e
    refine ⟨cur.toList.drop (n * 3), cur, hg, ?_, ?_, hb, hn, hm⟩
    · rw [← ht, List.take_append_drop]
    · rw [List.length_drop, Array.length_toList, hs, Nat.sub_mul]
theorem flat_split (l : List En) (k : Nat) : flatOf En.enc l = flatOf En.enc (l.take k) ++ flatOf En.enc (l.drop k) := by rw [← flatOf_app, List.take_append_drop]
theorem flat_cells (l : List En) : ∀ v ∈ flatOf En.enc l, v.oneCell' = true := by
  intro v hv
  obtain ⟨x, _, hx⟩ := List.mem_flatMap.1 hv
  exact En.cells x v hx
/-- The new slice, once its block holds the cells. -/
theorem own_made {t : TypeId} {w : World} {B g n c k : Nat} {l : List En} {x : En} {R : List Value} (hB : B ≤ g) (hl : l.length = n) (hk : k ≤ n) (hn : n + 1 ≤ c) (hc : c ≤ maxLen)
    (hg : w.heap[g]? = some (.cells (flatOf En.enc (l.take k) ++ En.enc x ++ (flatOf En.enc (l.drop k) ++ R)).toArray t (0, 0))) (hR : R.length = (c - (n + 1)) * 3) :
    OwnN t w B (some ⟨g, 0, none⟩) (n + 1) c (l.take k ++ x :: l.drop k) := by
  have hfl : flatOf En.enc (l.take k ++ x :: l.drop k) = flatOf En.enc (l.take k) ++ En.enc x ++ flatOf En.enc (l.drop k) := by
    rw [flatOf_app, List.append_assoc]; rfl
  have hlen : (flatOf En.enc (l.take k ++ x :: l.drop k)).length = (n + 1) * 3 := by
    rw [flatOf_len En.enc_len]; congr 1; simp; omega
  refine ⟨by simp; omega, hlen, .inr ⟨g, c, _, rfl, hB, hg, hn, hc, ?_, ?_⟩⟩
  · have : (flatOf En.enc (l.take k) ++ En.enc x ++ (flatOf En.enc (l.drop k) ++ R)).length = (n + 1) * 3 + (c - (n + 1)) * 3 := by
      rw [← List.append_assoc, ← hfl, List.length_append, hlen, hR]
    simp only [List.size_toArray]
    rw [this]
    omega
  · rw [← List.append_assoc, ← hfl, ← hlen]
    simp

set_option maxHeartbeats 2000000 in
set_option maxRecDepth 100000 in
theorem insert_end {B g q n c : Nat} {l : List En} {x : En} {W : World} (hown : OwnN 51 W B (some ⟨g, 0, none⟩) n c l) (hv : Ens W (some ⟨q, 0, none⟩) 1 [x]) (hn : n ≤ 1000) (hB : B ≤ W.heap.size) :
    Calls Try.prog 70 #[.slice (some ⟨g, 0, none⟩) n c, .int .i64 (n : Nat), .slice (some ⟨q, 0, none⟩) 1 1] W (fun e w' => ∃ b d, e = .returned (.slice b (n + 1) d) ∧ OwnN 51 w' B b (n + 1) d (l ++ [x]) ∧ Below B W w') := by
  have hroom := hown.room
  have HO := Lib.hid hown
  have HV := Lib.hid hv
  clear hown hv
  obtain ⟨i0, hi, hz0, hz1, hz2⟩ := info_parts infoEntryS
  have HI := Lib.hid (And.intro hi (And.intro hz0 (And.intro hz1 hz2)))
  clear hi hz0 hz1 hz2
  rcases Nat.lt_or_ge n c with hcn | hcn
  · have hne : ¬ (c = n) := by omega
    go_enter Try.func70, Try.ntmps70
    go_wp2_with (at_builtin; refine wpl_app_some _ rfl (.tmp 23) (.tmp 24) 38 rfl 51 i0 (.agg #[.int .i64 0, .int .i64 0, .bool false]) 24 Try.underlying38 HI.out.1 HI.out.2.1 HI.out.2.2.1 HI.out.2.2.2 rfl rfl HO.out rfl HV.out (by omega) ?c1 hB ?_)
    case c1 => omega
    intro g3 c3 w3 ho3 hb3
    have HO3 := Lib.hid ho3
    have HB3 := Lib.hid hb3
    clear ho3 hb3
    go_wp2_with fail
    go_ret
    exact ⟨_, _, rfl, HO3.out, HB3.out⟩
  · obtain rfl : c = n := by have := hroom.1; omega
    go_enter Try.func70, Try.ntmps70
    go_wp2_with (at_builtin; refine wpl_app_some _ rfl (.tmp 23) (.tmp 24) 38 rfl 51 i0 (.agg #[.int .i64 0, .int .i64 0, .bool false]) 24 Try.underlying38 HI.out.1 HI.out.2.1 HI.out.2.2.1 HI.out.2.2.2 rfl rfl HO.out rfl HV.out (by omega) ?c1 hB ?_)
    case c1 => omega
    intro g3 c3 w3 ho3 hb3
    have HO3 := Lib.hid ho3
    have HB3 := Lib.hid hb3
    clear ho3 hb3
    go_wp2_with fail
    go_ret
    exact ⟨_, _, rfl, HO3.out, HB3.out⟩
set_option maxHeartbeats 2000000 in
set_option maxRecDepth 100000 in
theorem insert_shift {B g q n c k : Nat} {l : List En} {x : En} {W : World} (hown : OwnN 51 W B (some ⟨g, 0, none⟩) n c l) (hv : Ens W (some ⟨q, 0, none⟩) 1 [x]) (hk : k < n) (hc : n + 1 ≤ c) (hqg : q ≠ g) {tA : TypeId} {kA : Nat} (hsa : W.shape? q = some (tA, kA)) (hfa : W.frozen? ⟨q, 0, none⟩ = false) (hfe : W.frozen? ⟨q, kA, none⟩ = false) (hn : n ≤ 1000) (hB : B ≤ W.heap.size) :
    Calls Try.prog 70 #[.slice (some ⟨g, 0, none⟩) n c, .int .i64 (k : Nat), .slice (some ⟨q, 0, none⟩) 1 1] W (fun e w' => ∃ b d, e = .returned (.slice b (n + 1) d) ∧ OwnN 51 w' B b (n + 1) d (l.take k ++ x :: l.drop k) ∧ Below B W w') := by
  obtain ⟨R, cur, hg, hcur, hR, hBg, hnc, hcm⟩ := own_block hown
  have hlen := hown.len
  obtain ⟨b0, o0, y, e0, hy, hy0⟩ := hv.at_ (show 0 < 1 by omega)
  cases e0
  have hyx : x = y := by simpa using hy
  subst hyx
  have hvc : ∀ j v, (En.enc x)[j]? = some v → W.cell? ⟨q, j, none⟩ = some v := fun j v hj => by have := hy0 j v hj; simpa using this
  clear hown hv hy hy0
  obtain ⟨i0, hi, hz0, hz1, hz2⟩ := info_parts infoEntryS
  have HI := Lib.hid (And.intro hi (And.intro hz0 (And.intro hz1 hz2)))
  clear hi hz0 hz1 hz2
  have hsz : (sizeOf 51).run Try.prog = fun w => .ok 3 w := by funext w; simp [sizeOf, typeInfo, HI.out.1, HI.out.2.2.1]
  have hsb : W.shape? g = some (51, cur.size) := by simp [World.shape?, hg]
  have hcs : cur.size = c * 3 := by
    have := congrArg List.length hcur
    rw [Array.length_toList, List.length_append, flatOf_len En.enc_len, hR, hlen] at this
    omega
  have hov : ∀ ob lb cb, (callFunc 89 #[.slice (some ⟨q, 0, none⟩) 1 1, .slice (some ⟨g, ob, none⟩) lb cb]).run Try.prog W = .ok (.value (.bool false)) W := fun ob lb cb => by
    rw [run_callFunc_extern Try.func89 (by kernel_rfl) (by kernel_rfl) (by kernel_rfl) (e := Extern.SlicesOverlaps.overlaps #[38, 38] #[4]) (by kernel_rfl),
      Lib.run_overlaps_apart W 38 4 51 Try.underlying38 3 (fun w => congrFun hsz w) ⟨q, 0, none⟩ ⟨g, ob, none⟩ 1 1 lb cb hqg tA 51 kA cur.size hsa hsb (by omega) hfa hfe]
    rfl
  have mixed : Try.prog.follows .mixedOrders = true := by rfl
  have hz2 : ¬ ((k : Int) = (n : Int)) := by omega
  have hz3 : ¬ (c : Int) < (n : Int) + 1 := by omega
  have hb2 : ¬ (c = k + 1) := by omega
  have hb4 : ¬ (c = k) := by omega
  have hw1 : IntKind.i64.wrap ((k : Int) + 1) = (k : Int) + 1 := by rw [IntKind.wrap_i64]; omega
  have hb1 : (0 : Int) ≤ (k : Int) + 1 := by omega
  have htn : ((k : Int) + 1).toNat = k + 1 := by omega
  have hkn : k ≤ n := by omega
  have hkn1 : (k : Int) ≤ (n : Int) + 1 := by omega
  have hl1 : (flatOf En.enc (l.take k)).length = k * 3 := by rw [flatOf_len En.enc_len, List.length_take]; congr 1; omega
  have hl2 : (flatOf En.enc (l.drop k)).length = (n - k) * 3 := by rw [flatOf_len En.enc_len, List.length_drop, hlen]
  have hR3 : 3 ≤ R.length := by rw [hR]; omega
  have hcur2 : cur.toList = flatOf En.enc (l.take k) ++ flatOf En.enc (l.drop k) ++ R := by rw [hcur, flat_split l k]
  obtain ⟨c1, hc1⟩ : ∃ c1 : Array Value, c1 = (put3 ((k + 1) * 3) (flatOf En.enc (l.drop k)) cur.toList).toArray := ⟨_, rfl⟩
  have hfit1 : (k + 1) * 3 + (flatOf En.enc (l.drop k)).length ≤ cur.toList.length := by rw [hl2, Array.length_toList, hcs]; omega
  have hs1 : c1.size = c * 3 := by rw [hc1, List.size_toArray, put3_len hfit1, Array.length_toList, hcs]
  obtain ⟨W1, hW1⟩ : ∃ W1, W1 = W.drew.setRow g c1 := ⟨_, rfl⟩
  have hg0 : W.drew.heap[g]? = some (.cells cur 51 (0, 0)) := hg
  have hg1 : W1.heap[g]? = some (.cells c1 51 (0, 0)) := by rw [hW1]; exact setRow_heap _ _ _ _ _ _ hg0
  have hcp1 : ∀ ty dc sc, (Builtin.copy_ #[38, 38] ty #[.slice (some ⟨g, (k + 1) * 3, none⟩) (n + 1 - (k + 1)) dc, .slice (some ⟨g, k * 3, none⟩) (n + 1 - k) sc]).run Try.prog W.drew = .ok (goInt ((n - k : Nat) : Int)) W1 := fun ty dc sc => by
    have h := run_copyB (P := Try.prog) W.drew 38 38 ty 51 i0 Try.underlying38 HI.out.1 HI.out.2.2.1 (o := (k + 1) * 3) (nd := n + 1 - (k + 1)) (dc := dc) (ns := n + 1 - k) (sc := sc) (ad := ⟨g, k * 3, none⟩) (F := flatOf En.enc (l.drop k)) hg0 (n - k) (by
      show min (n + 1 - k) (n + 1 - (k + 1)) = n - k
      omega) hl2 (fun j v hj => by
        have hj2 : j < (flatOf En.enc (l.drop k)).length := lt_of_get hj
        have e : (⟨g, k * 3, none⟩ : Addr).add j = ⟨g, k * 3 + j, none⟩ := by unfold Addr.add; split <;> simp_all
        rw [e, block_cell hg0, ← Array.getElem?_toList, hcur2, List.append_assoc, ← hl1, List.getElem?_append_right (by omega), Nat.add_sub_cancel_left, List.getElem?_append_left hj2]
        exact hj) (by simpa using hfit1) (flat_cells _)
    rw [h, hW1, hc1]
    rfl
  obtain ⟨c2, hc2⟩ : ∃ c2 : Array Value, c2 = (put3 (k * 3) (En.enc x) c1.toList).toArray := ⟨_, rfl⟩
  obtain ⟨W2, hW2⟩ : ∃ W2, W2 = W1.setRow g c2 := ⟨_, rfl⟩
  have hcp2 : ∀ ty dc, (Builtin.copy_ #[38, 38] ty #[.slice (some ⟨g, k * 3, none⟩) (n + 1 - k) dc, .slice (some ⟨q, 0, none⟩) 1 1]).run Try.prog W1 = .ok (goInt ((1 : Nat) : Int)) W2 := fun ty dc => by
    have h := run_copyB (P := Try.prog) W1 38 38 ty 51 i0 Try.underlying38 HI.out.1 HI.out.2.2.1 (o := k * 3) (nd := n + 1 - k) (dc := dc) (ns := 1) (sc := 1) (ad := ⟨q, 0, none⟩) (F := En.enc x) hg1 1 (by
      show min 1 (n + 1 - k) = 1
      omega) rfl (fun j v hj => by
        rw [addr_zero, hW1, World.cell?_of_block (w := W.drew) (setRow_other W.drew g q c1 (by omega))]
        exact hvc j v hj) (by rw [hs1]; show k * 3 + 3 ≤ c * 3; omega) (En.cells x)
    rw [h, hW2, hc2]
    rfl
  have hg2 : W2.heap[g]? = some (.cells c2 51 (0, 0)) := by rw [hW2]; exact setRow_heap _ _ _ _ _ _ hg1
  have hfin : c2 = (flatOf En.enc (l.take k) ++ En.enc x ++ (flatOf En.enc (l.drop k) ++ R.drop 3)).toArray := by
    rw [hc2, hc1, hcur2]
    congr 1
    have := put3_shift (flatOf En.enc (l.take k)) (flatOf En.enc (l.drop k)) R (En.enc x) rfl hR3
    rw [hl1] at this
    rw [show (k + 1) * 3 = k * 3 + 3 by omega]
    exact this
  have HW : Hid (OwnN 51 W2 B (some ⟨g, 0, none⟩) (n + 1) c (l.take k ++ x :: l.drop k) ∧ Below B W W2) := Lib.hid ⟨by
    rw [hfin] at hg2
    exact own_made hBg hlen (by omega) hc hcm hg2 (by rw [List.length_drop, hR]; omega), by
    rw [hW2, hW1]
    exact below_setRow (below_setRow ((Below.refl B W).drew) hBg _) hBg _⟩
  clear hcur hcur2 hc1 hs1 hW1 hc2 hW2 hg2 hfin hfit1 hl1 hl2 hR3 hg0 hg1 hcs hsb
  go_enter Try.func70, Try.ntmps70
  go_wp2_with (simp only [hov])
  go_region_law_o (refine step_copy_runI rfl _ _ 38 38 rfl (.slice (some ⟨g, (k + 1) * 3, none⟩) (n + 1 - (k + 1)) (c - (k + 1))) (.slice (some ⟨g, k * 3, none⟩) (n + 1 - k) (c - k)) (by simp [Act.eval, Act.put]) (by simp [Act.eval, Act.put]) (hcp1 3 (c - (k + 1)) (c - k)) ?_)
  go_wp2_with (at_builtin; refine wpList_copy_runI _ rfl _ _ 38 38 rfl _ _ rfl rfl (hcp2 _ _) ?_)
  go_ret
  exact ⟨some ⟨g, 0, none⟩, c, rfl, HW.out.1, HW.out.2⟩
set_option maxHeartbeats 2000000 in
set_option maxRecDepth 100000 in
theorem insert_grow {B g q n c k : Nat} {l : List En} {x : En} {W : World} (hown : OwnN 51 W B (some ⟨g, 0, none⟩) n c l) (hv : Ens W (some ⟨q, 0, none⟩) 1 [x]) (hk : k < n) (hc : c < n + 1) (hq : q < W.heap.size) (hn : n ≤ 1000) (hB : B ≤ W.heap.size) :
    Calls Try.prog 70 #[.slice (some ⟨g, 0, none⟩) n c, .int .i64 (k : Nat), .slice (some ⟨q, 0, none⟩) 1 1] W (fun e w' => ∃ b d, e = .returned (.slice b (n + 1) d) ∧ OwnN 51 w' B b (n + 1) d (l.take k ++ x :: l.drop k) ∧ Below B W w') := by
  obtain ⟨R, cur, hg, hcur, hR, hBg, hnc, hcm⟩ := own_block hown
  have hlen := hown.len
  have hcn : c = n := by omega
  obtain ⟨b0, o0, y, e0, hy, hy0⟩ := hv.at_ (show 0 < 1 by omega)
  cases e0
  have hyx : x = y := by simpa using hy
  subst hyx
  have hvc : ∀ j v, (En.enc x)[j]? = some v → W.cell? ⟨q, j, none⟩ = some v := fun j v hj => by have := hy0 j v hj; simpa using this
  clear hown hv hy hy0
  obtain ⟨i0, hi, hz0, hz1, hz2⟩ := info_parts infoEntryS
  have HI := Lib.hid (And.intro hi (And.intro hz0 (And.intro hz1 hz2)))
  clear hi hz0 hz1 hz2
  have mixed : Try.prog.follows .mixedOrders = true := by rfl
  have hgl : g < W.heap.size := (Array.getElem?_eq_some_iff.1 hg).1
  have hgN : g ≠ W.heap.size := by omega
  have hl1 : (flatOf En.enc (l.take k)).length = k * 3 := by rw [flatOf_len En.enc_len, List.length_take]; congr 1; omega
  have hl2 : (flatOf En.enc (l.drop k)).length = (n - k) * 3 := by rw [flatOf_len En.enc_len, List.length_drop, hlen]
  have hcur2 : cur.toList = flatOf En.enc (l.take k) ++ flatOf En.enc (l.drop k) ++ R := by rw [hcur, flat_split l k]
  have hkk : (n : Int) + 1 - (k : Int) = ((n + 1 - k : Nat) : Int) := by omega
  have hik : k + (n + 1 - k) = n + 1 := by omega
  have hcell : ∀ (w : World) j, w.heap[g]? = W.heap[g]? → w.cell? ⟨g, j, none⟩ = cur[j]? := fun w j h => block_cell (h.trans hg) j
  have hold : (Builtin.firstCells i0.size k (.slice (some ⟨g, 0, none⟩) k c)).run Try.prog W.drew = .ok (flatOf En.enc (l.take k)).toArray W.drew := by
    rw [HI.out.2.2.1]
    exact run_firstCells_some W.drew 3 k ⟨g, 0, none⟩ k c (flatOf En.enc (l.take k)) hl1 (fun j v hj => by
      have hj2 : j < (flatOf En.enc (l.take k)).length := lt_of_get hj
      rw [addr_zero, hcell W.drew j rfl, ← Array.getElem?_toList, hcur2, List.append_assoc, List.getElem?_append_left hj2]
      exact hj)
  obtain ⟨G, hG⟩ : ∃ G, G = grownCap W (n + 1) c 51 := ⟨_, rfl⟩
  have hGn : n + 1 ≤ G := by rw [hG]; exact grownCap_ge W _ _ _
  have hGm : G ≤ maxLen := by rw [hG]; exact grownCap_le_maxLen W (n + 1) c 51 (by unfold maxLen; omega)
  have hG63 : G ≤ 9223372036854775807 := by unfold maxLen at hGm; omega
  obtain ⟨Z, hZ⟩ : ∃ Z : List Value, Z = (Builtin.zeroCells (Value.agg #[.int .i64 0, .int .i64 0, .bool false]).cells (n + 1 - k)).toList ++ (Builtin.zeroCells (Value.agg #[.int .i64 0, .int .i64 0, .bool false]).cells (G - (n + 1))).toList := ⟨_, rfl⟩
  have hzl : ∀ m, (Builtin.zeroCells (Value.agg #[.int .i64 0, .int .i64 0, .bool false]).cells m).toList.length = m * 3 := fun m => by simp [Builtin.zeroCells, Value.cells]
  have hZl : Z.length = (G - k) * 3 := by rw [hZ, List.length_append, hzl, hzl]; omega
  obtain ⟨c0, hc0⟩ : ∃ c0 : Array Value, c0 = (flatOf En.enc (l.take k) ++ Z).toArray := ⟨_, rfl⟩
  obtain ⟨W0, hW0⟩ : ∃ W0, W0 = W.drew.alloc (.cells c0 51) := ⟨_, rfl⟩
  have hrz : ∀ ty, (Builtin.append_ #[38, 3] ty #[.slice (some ⟨g, 0, none⟩) k c, .int .i64 ((n : Int) + 1 - (k : Int))]).run Try.prog W = .ok (.slice (some ⟨W.heap.size, 0, none⟩) (n + 1) G) W0 := fun ty => by
    have h := Lib.run_append_grow_zeros (P := Try.prog) W 38 3 ty 51 i0 _ .i64 .i64 Try.underlying38 Try.underlying3 HI.out.1 HI.out.2.1 (some ⟨g, 0, none⟩) k c (flatOf En.enc (l.take k)) hold (n + 1 - k) (by omega) (by rw [HI.out.2.2.1]; omega) (by omega) (by omega) (by rw [HI.out.2.2.2]; omega) (by rw [HI.out.2.2.2, hik]; exact growslice_fits hc (by omega))
    rw [hik] at h
    have hX : ∀ (A : List Value) (z1 z2 : Array Value), A.toArray ++ z1 ++ z2 = (A ++ (z1.toList ++ z2.toList)).toArray := fun A z1 z2 => by apply Array.ext'; simp
    rw [hkk, hW0, hc0, hZ, hG, h, hX]
  have hcs0 : c0.size = G * 3 := by rw [hc0, List.size_toArray, List.length_append, hl1, hZl]; omega
  have hsz0 : W.drew.heap.size = W.heap.size := rfl
  have hg0 : W0.heap[W.heap.size]? = some (.cells c0 51 (0, 0)) := by rw [hW0]; exact heap_alloc_new W.drew _
  have hold0 : ∀ b, b < W.heap.size → W0.heap[b]? = W.heap[b]? := fun b hb => by rw [hW0]; exact heap_alloc_old W.drew _ hb
  obtain ⟨c1, hc1⟩ : ∃ c1 : Array Value, c1 = (put3 (k * 3) (En.enc x) c0.toList).toArray := ⟨_, rfl⟩
  have hs1 : c1.size = G * 3 := by rw [hc1, List.size_toArray, put3_len (o := k * 3) (F := En.enc x) (cur := c0.toList) (by show k * 3 + 3 ≤ _; rw [Array.length_toList, hcs0]; omega), Array.length_toList, hcs0]
  obtain ⟨W1, hW1⟩ : ∃ W1, W1 = W0.setRow W.heap.size c1 := ⟨_, rfl⟩
  have hcp1 : ∀ ty dc, (Builtin.copy_ #[38, 38] ty #[.slice (some ⟨W.heap.size, k * 3, none⟩) (n + 1 - k) dc, .slice (some ⟨q, 0, none⟩) 1 1]).run Try.prog W0 = .ok (goInt ((1 : Nat) : Int)) W1 := fun ty dc => by
    have h := run_copyB (P := Try.prog) W0 38 38 ty 51 i0 Try.underlying38 HI.out.1 HI.out.2.2.1 (o := k * 3) (nd := n + 1 - k) (dc := dc) (ns := 1) (sc := 1) (ad := ⟨q, 0, none⟩) (F := En.enc x) hg0 1 (by
      show min 1 (n + 1 - k) = 1
      omega) rfl (fun j v hj => by
        rw [addr_zero, World.cell?_of_block (w := W) (hold0 q hq)]
        exact hvc j v hj) (by rw [hcs0]; show k * 3 + 3 ≤ G * 3; omega) (En.cells x)
    rw [h, hW1, hc1]
    rfl
  have hg1 : W1.heap[W.heap.size]? = some (.cells c1 51 (0, 0)) := by rw [hW1]; exact setRow_heap _ _ _ _ _ _ hg0
  have hold1 : ∀ b, b < W.heap.size → W1.heap[b]? = W.heap[b]? := fun b hb => by rw [hW1, setRow_other _ _ _ _ (by omega)]; exact hold0 b hb
  obtain ⟨c2, hc2⟩ : ∃ c2 : Array Value, c2 = (put3 ((k + 1) * 3) (flatOf En.enc (l.drop k)) c1.toList).toArray := ⟨_, rfl⟩
  obtain ⟨W2, hW2⟩ : ∃ W2, W2 = W1.drew.setRow W.heap.size c2 := ⟨_, rfl⟩
  have hg1d : W1.drew.heap[W.heap.size]? = some (.cells c1 51 (0, 0)) := hg1
  have hcp2 : ∀ ty dc sc, (Builtin.copy_ #[38, 38] ty #[.slice (some ⟨W.heap.size, (k + 1) * 3, none⟩) (n + 1 - (k + 1)) dc, .slice (some ⟨g, k * 3, none⟩) (n - k) sc]).run Try.prog W1.drew = .ok (goInt ((n - k : Nat) : Int)) W2 := fun ty dc sc => by
    have h := run_copyB (P := Try.prog) W1.drew 38 38 ty 51 i0 Try.underlying38 HI.out.1 HI.out.2.2.1 (o := (k + 1) * 3) (nd := n + 1 - (k + 1)) (dc := dc) (ns := n - k) (sc := sc) (ad := ⟨g, k * 3, none⟩) (F := flatOf En.enc (l.drop k)) hg1d (n - k) (by
      show min (n - k) (n + 1 - (k + 1)) = n - k
      omega) hl2 (fun j v hj => by
        have hj2 : j < (flatOf En.enc (l.drop k)).length := lt_of_get hj
        have e : (⟨g, k * 3, none⟩ : Addr).add j = ⟨g, k * 3 + j, none⟩ := by unfold Addr.add; split <;> simp_all
        rw [e, hcell W1.drew _ (hold1 g hgl), ← Array.getElem?_toList, hcur2, List.append_assoc, ← hl1, List.getElem?_append_right (by omega), Nat.add_sub_cancel_left, List.getElem?_append_left hj2]
        exact hj) (by rw [hs1, hl2]; omega) (flat_cells _)
    rw [h, hW2, hc2]
    rfl
  have hg2 : W2.heap[W.heap.size]? = some (.cells c2 51 (0, 0)) := by rw [hW2]; exact setRow_heap _ _ _ _ _ _ hg1d
  have hfin : c2 = (flatOf En.enc (l.take k) ++ En.enc x ++ (flatOf En.enc (l.drop k) ++ Z.drop (3 + (flatOf En.enc (l.drop k)).length))).toArray := by
    rw [hc2, hc1, hc0]
    congr 1
    have := put3_grow (flatOf En.enc (l.take k)) Z (En.enc x) (flatOf En.enc (l.drop k)) rfl (by rw [hl2, hZl]; omega)
    rw [hl1] at this
    rw [show (k + 1) * 3 = k * 3 + 3 by omega]
    exact this
  have HW : Hid (OwnN 51 W2 B (some ⟨W.heap.size, 0, none⟩) (n + 1) G (l.take k ++ x :: l.drop k) ∧ Below B W W2) := Lib.hid ⟨by
    rw [hfin] at hg2
    exact own_made hB hlen (by omega) hGn hGm hg2 (by rw [List.length_drop, hZl, hl2]; omega), by
    rw [hW2, hW1, hW0]
    exact below_setRow ((below_setRow (((Below.refl B W).drew).alloc hB _) hB _).drew) hB _⟩
  have hz2 : ¬ ((k : Int) = (n : Int)) := by omega
  have hz3 : (c : Int) < (n : Int) + 1 := by omega
  have hb2 : ¬ (G = k + 1) := by omega
  have hb3 : ¬ (G = k) := by omega
  have hb4 : ¬ (c = k) := by omega
  have hw1 : IntKind.i64.wrap ((k : Int) + 1) = (k : Int) + 1 := by rw [IntKind.wrap_i64]; omega
  have hb1 : (0 : Int) ≤ (k : Int) + 1 := by omega
  have htn : ((k : Int) + 1).toNat = k + 1 := by omega
  have hkn : k ≤ n := by omega
  have hkn1 : (k : Int) ≤ (n : Int) := by omega
  clear hcn hcur hcur2 hR hG hZ hZl hzl hc0 hW0 hcs0 hc1 hs1 hW1 hc2 hW2 hg2 hfin hl1 hl2 hg0 hg1 hg1d hold0 hold1 hold hcell hkk hik hsz0 hvc
  go_enter Try.func70, Try.ntmps70
  go_wp2_with (first
    | (at_builtin; refine Lib.wpList_append_run _ rfl _ _ _ _ rfl _ _ rfl rfl _ _ (hrz _) ?_)
    | (at_builtin; refine wpList_copy_runI _ rfl _ _ 38 38 rfl _ _ rfl rfl (hcp1 _ _) ?_))
  go_region_law_o (refine step_copy_runI rfl _ _ 38 38 rfl (.slice (some ⟨W.heap.size, (k + 1) * 3, none⟩) (n + 1 - (k + 1)) (G - (k + 1))) (.slice (some ⟨g, k * 3, none⟩) (n - k) (c - k)) (by simp [Act.eval, Act.put]) (by simp [Act.eval, Act.put]) (hcp2 3 (G - (k + 1)) (c - k)) ?_)
  go_wp2_with fail
  go_ret
  exact ⟨_, _, rfl, HW.out.1, HW.out.2⟩
end Go.Proofs.Ytjmabidahofbbaa
