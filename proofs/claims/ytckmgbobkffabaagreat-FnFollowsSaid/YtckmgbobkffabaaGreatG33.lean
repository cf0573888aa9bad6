/- A search by depth through the pairs that two machines reach by the same moves: by the program. Whether a newer machine follows an older one: by the program. -/
import Derived.Test.YtckmgbobkffabaaGreatG31
import Derived.Test.YtckmgbobkffabaaGreatG32
import Derived.Test.YtckmgbobkffabaaGreatG1
namespace Go.Proofs.YtckmgbobkffabaaGreat
open Go.ChangeShapes Go.WideShapes Go.ChangeAt Go.RowKit
set_option linter.unusedVariables false
set_option linter.unusedSimpArgs false

/-- Of the blocks that were there, only g has changed. -/
def OnlyG (g : Nat) (w w' : World) : Prop := Inside g (g + 1) w w'
theorem OnlyG.of {g : Nat} {w w' : World} (h : Below w.heap.size w w') : OnlyG g w w' := (Inside.refl g (g + 1) w).below h
theorem OnlyG.trans {g : Nat} {a b c : World} (h : OnlyG g a b) (k : OnlyG g b c) : OnlyG g a c := Inside.trans h k
theorem OnlyG.at_ {g i : Nat} {w w' : World} {o : Obj} (h : OnlyG g w w') (hx : w.heap[i]? = some o) (hne : g < i) : w'.heap[i]? = some o :=
 (Inside.block h i (Array.getElem?_eq_some_iff.1 hx).1 (Or.inr (by omega))).trans hx
theorem OnlyG.to {g B0 : Nat} {w0 w w' : World} (h : OnlyG g w w') (hb : Below B0 w0 w) (h0 : B0 ≤ g) (h1 : B0 ≤ w.heap.size) : Below B0 w0 w' := Inside.to h hb h0 h1
theorem OnlyG.size {g : Nat} {w w' : World} (h : OnlyG g w w') : w.heap.size ≤ w'.heap.size := Inside.size h
theorem OnlyG.grow {g : Nat} {w w' : World} (h : w.grownBy w' (some g)) : OnlyG g w w' := Inside.row h fun r e => by
 cases e
 exact ⟨Nat.le_refl _, Nat.lt_succ_self _⟩
theorem pair_cells {w : World} {g : Nat} {t : TypeId} {a b : Value} (h : w.heap[g]? = some (.cells #[a, b] t (0, 0))) : w.cell? ⟨g, 0, none⟩ = some a ∧ w.cell? ⟨g, 1, none⟩ = some b :=
 ⟨(block_cell h 0).trans rfl, (block_cell h 1).trans rfl⟩
theorem thrice (w : World) (c1 c2 c3 : Array Value) (t1 t2 t3 : TypeId) : Below w.heap.size w (((w.alloc (.cells c1 t1)).alloc (.cells c2 t2)).alloc (.cells c3 t3)) ∧ (((w.alloc (.cells c1 t1)).alloc (.cells c2 t2)).alloc (.cells c3 t3)).heap[w.heap.size]? = some (.cells c1 t1 (0, 0)) ∧ (((w.alloc (.cells c1 t1)).alloc (.cells c2 t2)).alloc (.cells c3 t3)).heap[w.heap.size + 1]? = some (.cells c2 t2 (0, 0)) ∧ (((w.alloc (.cells c1 t1)).alloc (.cells c2 t2)).alloc (.cells c3 t3)).heap[w.heap.size + 1 + 1]? = some (.cells c3 t3 (0, 0)) := by
 obtain ⟨h1, h2, h3, h4⟩ := twice w c1 c2 t1 t2
 have hb := alloc_same ((w.alloc (.cells c1 t1)).alloc (.cells c2 t2)) (.cells c3 t3)
 have h5 := heap_alloc_new ((w.alloc (.cells c1 t1)).alloc (.cells c2 t2)) (.cells c3 t3 (0, 0))
 have hs : ((w.alloc (.cells c1 t1)).alloc (.cells c2 t2)).heap.size = w.heap.size + 1 + 1 := by simp
 rw [hs] at h5
 exact ⟨h1.trans (hb.mono h1.size), (hb.block _ (Array.getElem?_eq_some_iff.1 h2).1).trans h2, (hb.block _ (Array.getElem?_eq_some_iff.1 h3).1).trans h3, h5⟩

set_option maxRecDepth 100000 in
set_option maxHeartbeats 8000000 in
theorem followsFrom_any {a b : Mac} (hz : ∀ z ∈ a.moves, Wmv z) (hz' : ∀ z ∈ b.moves, Wmv z) (hia : isMac a = true) (hib : isMac b = true) (hn : a.parts ≤ 10000000) (hn' : b.parts ≤ 10000000) {ca cb : Array Value} {w0 : World} (h : MacW w0 (.agg ca) a) (h' : MacW w0 (.agg cb) b) (g : Nat) (hg0 : w0.heap.size ≤ g) :
  ∀ (k : Nat) (p : Int × Int) (M : List (Int × Int)) (w : World), Below w0.heap.size w0 w → M.Nodup → (∀ q ∈ M, ReachG (samesP a b) q) → ReachG (samesP a b) p → 36 ≤ M.length + k → Met w g M →
  Calls Tryz.prog 15 #[.agg ca, .agg cb, .agg #[.int .i64 p.1, .int .i64 p.2], .map (some g)] w fun e w' => ∃ r M', e = .returned (.bool r) ∧ DfsTo (samesP a b) (fun q => followsAtP a b q.1 q.2) M p r M' ∧ Met w' g M' ∧ OnlyG g w w' := by
 obtain ⟨ap, np, cp, q, n, c, e1⟩ := h.shape
 obtain ⟨ap', np', cp', q', n', c', e2⟩ := h'.shape
 cases e1
 cases e2
 have HSM := Lib.hid (sames_small hia hib)
 have HLN := Lib.hid (And.intro (isMac_len hia) (isMac_len hib))
 have HFA : Hid (∀ (x y : Int) (W' : World), Below w0.heap.size w0 W' → Calls Tryz.prog 13 #[.agg #[.int .i64 a.st, .slice ap np cp, .slice q n c], .agg #[.int .i64 b.st, .slice ap' np' cp', .slice q' n' c'], .int .i64 x, .int .i64 y] W' (Told (.bool (followsAtP a b x y)) W')) :=
  Lib.hid fun x y W' hb => followsAt_any x y (h.same hb) (h'.same hb) hz hz' hn hn'
 have HSA : Hid (∀ (x y : Int) (W' : World), Below w0.heap.size w0 W' → Calls Tryz.prog 30 #[.agg #[.int .i64 a.st, .slice ap np cp, .slice q n c], .agg #[.int .i64 b.st, .slice ap' np' cp', .slice q' n' c'], .int .i64 x, .int .i64 y] W' (MadeR W'.heap.size (samesP a b x y) W')) :=
  Lib.hid fun x y W' hb => sameMoves_any x y (h.same hb) (h'.same hb) hz hz' hn hn'
 clear h h' hz hz' hia hib
 intro k
 induction k with
 | zero =>
  intro p M w hb hnd hr hrp hk hm
  have hp : p ∈ M := by
   by_cases hp : p ∈ M
   ·exact hp
   ·have := met_room HSM.out hnd hr hp hrp
    omega
  obtain ⟨hB, hX, hY, hP⟩ := thrice w #[.int .i64 a.st, .slice ap np cp, .slice q n c] #[.int .i64 b.st, .slice ap' np' cp', .slice q' n' c'] #[.int .i64 p.1, .int .i64 p.2] 27 27 39
  have HL := met_look (hm.same hB) (small_in6 HSM.out hrp) (fun q hq => small_in6 HSM.out (hr q hq))
  rw [decide_eq_true hp] at HL
  have HB := Lib.hid hB
  have HD := Lib.hid (DfsTo.old (F := fun q => followsAtP a b q.1 q.2) hnd hr hp)
  have HM := Lib.hid (hm.same hB)
  obtain ⟨p0, p1⟩ := pair_cells hP
  clear hB hX hY hP hm hnd hr hrp hp
  go_enter Tryz.func15, Tryz.ntmps15
  go_wp2_with fail
  go_ret
  exact ⟨true, M, rfl, HD.out, HM.out, OnlyG.of HB.out⟩
 | succ k ih =>
  intro p M w hb hnd hr hrp hk hm
  have hgw : g < w.heap.size := World.ownsMap.lt hm
  obtain ⟨hB, hX, hY, hP⟩ := thrice w #[.int .i64 a.st, .slice ap np cp, .slice q n c] #[.int .i64 b.st, .slice ap' np' cp', .slice q' n' c'] #[.int .i64 p.1, .int .i64 p.2] 27 27 39
  have HL := met_look (hm.same hB) (small_in6 HSM.out hrp) (fun q hq => small_in6 HSM.out (hr q hq))
  have HB := Lib.hid hB
  have HM := Lib.hid (hm.same hB)
  have HX := Lib.hid hX
  have HY := Lib.hid hY
  have HP := Lib.hid hP
  have HB0 := Lib.hid hb
  have hs0 := hb.size
  by_cases hp : p ∈ M
  ·rw [decide_eq_true hp] at HL
   have HD := Lib.hid (DfsTo.old (F := fun q => followsAtP a b q.1 q.2) hnd hr hp)
   obtain ⟨p0, p1⟩ := pair_cells hP
   clear hB hX hY hP hm hnd hr hrp hp ih hb
   go_enter Tryz.func15, Tryz.ntmps15
   go_wp2_with fail
   go_ret
   exact ⟨true, M, rfl, HD.out, HM.out, OnlyG.of HB.out⟩
  ·rw [decide_eq_false hp] at HL
   have HKEY := pair_read (small_in6 HSM.out hrp)
   have hml := met_room HSM.out hnd hr hp hrp
   have HIH := Lib.hid ih
   have HQ := Lib.hid (And.intro hnd (And.intro hr (And.intro hp hrp)))
   obtain ⟨p0, p1⟩ := pair_cells hP
   clear hB hX hY hP hm hnd hr hrp hp ih hb
   unfold pairV at HKEY
   go_enter Tryz.func15, Tryz.ntmps15
   have hml2 : M.length < maxLen := by unfold maxLen; omega
   go_wp2_with (at_mapUpdate; refine wpList_mapUpdate_own _ rfl _ _ _ 40 rfl 39 4 pair_law Tryz.underlying40 heldR g M.length (metD M) rfl HM.out hml2 _ _ (pairL p) rfl rfl HKEY (.held (.bool true)) [] rfl ?_; intro w2 hown2 hgrow2; have HIN := Lib.hid (OnlyG.grow hgrow2); obtain ⟨x0, x1, x2, -⟩ := three_cells (HIN.out.at_ HX.out (by omega)); obtain ⟨y0, y1, y2, -⟩ := three_cells (HIN.out.at_ HY.out (by omega)); obtain ⟨r0, r1⟩ := pair_cells (HIN.out.at_ HP.out (by omega)); clear p0 p1 HL)
   clear x0 x1 x2 y0 y1 y2 r0 r1 hgrow2
   have HM2 : Hid (Met w2 g (p :: M)) := Lib.hid hown2
   clear hown2 HM HKEY
   generalize ((w.alloc (.cells #[.int .i64 a.st, .slice ap np cp, .slice q n c] 27)).alloc (.cells #[.int .i64 b.st, .slice ap' np' cp', .slice q' n' c'] 27)).alloc (.cells #[.int .i64 p.1, .int .i64 p.2] 39) = W1 at *
   have hs1 := HB.out.size
   have HBW1 : Hid (Below w0.heap.size w0 W1) := Lib.hid (HB0.out.trans (HB.out.mono hs0))
   have hs2 := HIN.out.size
   have HBW2 : Hid (Below w0.heap.size w0 w2) := Lib.hid (HIN.out.to HBW1.out hg0 (by omega))
   have HOG : Hid (OnlyG g w w2) := Lib.hid ((OnlyG.of HB.out).trans HIN.out)
   have HNEW := Lib.hid (LoopTo.start (F := fun q => followsAtP a b q.1 q.2) HQ.out.1 HQ.out.2.1 HQ.out.2.2.1 HQ.out.2.2.2)
   cases hf : followsAtP a b p.1 p.2 with
   | false =>
    have HD : Hid (DfsTo (samesP a b) (fun q => followsAtP a b q.1 q.2) M p false (p :: M)) := Lib.hid (DfsTo.bad HQ.out.1 HQ.out.2.1 HQ.out.2.2.1 HQ.out.2.2.2 hf)
    have HC := Lib.hid (HFA.out p.1 p.2 w2 HBW2.out)
    rw [hf] at HC
    clear hf
    refine HC.out.mono ?_
    rintro e w3 ⟨rfl, hb3⟩
    have HO3 := Lib.hid (HOG.out.trans (OnlyG.of hb3))
    have HM3 := Lib.hid (HM2.out.same hb3)
    clear hb3
    go_wp2_with fail
    go_ret
    exact ⟨false, p :: M, rfl, HD.out, HM3.out, HO3.out⟩
   | true =>
    have HFP := Lib.hid hf
    have HC := Lib.hid (HFA.out p.1 p.2 w2 HBW2.out)
    rw [hf] at HC
    clear hf
    refine HC.out.mono ?_
    rintro e w3 ⟨rfl, hb3⟩
    have HO3 := Lib.hid (HOG.out.trans (OnlyG.of hb3))
    have HI3 : Hid (OnlyG g W1 w3) := Lib.hid (HIN.out.trans (OnlyG.of hb3))
    have HM3 := Lib.hid (HM2.out.same hb3)
    have HBW3 : Hid (Below w0.heap.size w0 w3) := Lib.hid (HBW2.out.trans (hb3.mono HBW2.out.size))
    have hs3 := hb3.size
    clear hb3
    obtain ⟨x0, x1, x2, -⟩ := three_cells (HI3.out.at_ HX.out (by omega))
    obtain ⟨y0, y1, y2, -⟩ := three_cells (HI3.out.at_ HY.out (by omega))
    obtain ⟨r0, r1⟩ := pair_cells (HI3.out.at_ HP.out (by omega))
    go_wp2_with fail
    clear x0 x1 x2 y0 y1 y2 r0 r1
    refine (HSA.out p.1 p.2 w3 HBW3.out).mono ?_
    rintro e w4 ⟨g4, m, c4, rfl, ho4, hb4⟩
    have hml4 := ho4.count
    have hsl := samesP_len a b p.1 p.2
    have hl12 := HLN.out.1
    have hroom := ho4.room
    have HO4 : Hid (OwnR w4.heap.size w4 w3.heap.size g4 m c4 (samesP a b p.1 p.2)) := Lib.hid ho4
    have HI4 : Hid (OnlyG g W1 w4) := Lib.hid (HI3.out.trans (OnlyG.of hb4))
    have HG4 : Hid (OnlyG g w w4) := Lib.hid (HO3.out.trans (OnlyG.of hb4))
    have HM4 := Lib.hid (HM3.out.same hb4)
    have HBW4 : Hid (Below w0.heap.size w0 w4) := Lib.hid (HBW3.out.trans (hb4.mono HBW3.out.size))
    have hs4 := hb4.size
    clear ho4 hb4
    go_wp2_with fail
    go_loopw [32] (fun i wr => ∃ (j : Nat) (M1 : List (Int × Int)), j ≤ m ∧ i = .int .i64 j ∧ LoopTo (samesP a b) (fun q => followsAtP a b q.1 q.2) (p :: M) ((samesP a b p.1 p.2).take j) M1 ∧ Met wr g M1 ∧ OnlyG g w4 wr) (fun i _ => m - (intOf i).toNat)
    case atStart => exact ⟨0, p :: M, Nat.zero_le _, rfl, HNEW.out, HM4.out, OnlyG.of (Below.refl _ _)⟩
    case round =>
     obtain ⟨j, M1, hj, rfl, hlo, hmt, hon⟩ := hrel
     have HLO := Lib.hid hlo
     have HMT := Lib.hid hmt
     have HON := Lib.hid hon
     have hsr := hon.size
     clear hlo hmt hon
     by_cases hlt : j < m
     ·obtain ⟨r, z, hzz, hc0, hrow, o1, o2, o3⟩ := (HO4.out.aside HON.out (Or.inl (by omega))).at_ hlt
      have HZZ := Lib.hid hzz
      have HROW := Lib.hid hrow
      obtain ⟨d0, d1⟩ := two_cells hrow
      obtain ⟨x0, x1, x2, -⟩ := three_cells ((HI4.out.trans HON.out).at_ HX.out (by omega))
      obtain ⟨y0, y1, y2, -⟩ := three_cells ((HI4.out.trans HON.out).at_ HY.out (by omega))
      have hrz : ReachG (samesP a b) z := ReachG.step HQ.out.2.2.2 (List.mem_of_getElem? hzz)
      have hM1 := HLO.out.len
      simp only [List.length_cons] at hM1
      have HBR : Hid (Below w0.heap.size w0 wr) := Lib.hid (HON.out.to HBW4.out hg0 (by omega))
      have HREC : Hid (∀ W', Below wr.heap.size wr W' → _) := Lib.hid (fun W' hb' => HIH.out z M1 W' (HBR.out.trans (hb'.mono HBR.out.size)) HLO.out.nodup HLO.out.reach hrz (by omega) (HMT.out.same hb'))
      clear hzz hrow hrz
      go_wp2_with fail
      go_still_tail 10, (by kernel_rfl)
      have H2 : Hid (Below wr.heap.size wr wr.drew) := Lib.hid (Below.refl _ _).drew
      change wpList _ _ _ _ _ wr.drew
      generalize wr.drew = w5 at H2 ⊢
      clear x0 x1 x2 y0 y1 y2 d0 d1 hc0
      go_wp2_with fail
      refine (HREC.out w5 H2.out).mono ?_
      rintro e w6 ⟨rr, M2, rfl, hdf, hmt2, hon2⟩
      have HO6 : Hid (OnlyG g w4 w6) := Lib.hid (HON.out.trans ((OnlyG.of H2.out).trans hon2))
      have HM6 := Lib.hid hmt2
      clear hmt2 hon2
      cases rr with
      | false =>
       have HD := Lib.hid (HLO.out.fail hdf)
       clear hdf
       go_wp2_with fail
       go_ret
       exact ⟨false, M2, rfl, HD.out, HM6.out, HG4.out.trans HO6.out⟩
      | true =>
       have HS := Lib.hid (HLO.out.step hdf)
       clear hdf
       go_wp2_with fail
       go_roundw
       case rel => exact ⟨j + 1, M2, by omega, by go_num, by rw [List.take_add_one, HZZ.out]; exact HS.out, HM6.out, HO6.out⟩
       case measure => simp [intOf]; omega
     ·obtain rfl : j = m := by omega
      have hlo := HLO.out
      rw [List.take_of_length_le (by omega)] at hlo
      have HD := Lib.hid (hlo.done HFP.out)
      clear hlo
      go_wp2_with fail
      go_ret
      exact ⟨true, M1, rfl, HD.out, HMT.out, HG4.out.trans HON.out⟩
end Go.Proofs.YtckmgbobkffabaaGreat
namespace Go.Proofs.YtckmgbobkffabaaGreat
open Go.ChangeShapes Go.WideShapes Go.ChangeAt Go.RowKit
set_option linter.unusedVariables false
set_option linter.unusedSimpArgs false

theorem run_makeSet (w : World) : (Instr.makeMap 40 none).run Tryz.prog w = .ok (.map (some w.heap.size)) (w.alloc (.map #[] 0)) := by
 simp [Instr.makeMap, run_underlying Tryz.underlying40, asInt, asIntOf, Result.andThen]
set_option maxHeartbeats 2000000 in
set_option maxRecDepth 100000 in
theorem follows_any {va vb : Value} {a b : Mac} {w : World} (ha : MacW w va a) (hb : MacW w vb b) (hz : ∀ z ∈ a.moves, Wmv z) (hz' : ∀ z ∈ b.moves, Wmv z) (hn : a.parts ≤ 10000000) (hn' : b.parts ≤ 10000000) :
  Calls Tryz.prog 6 #[va, vb] w (Told (.bool (followsP a b)) w) := by
 obtain ⟨p, np, cp, q, n, c, rfl⟩ := ha.shape
 obtain ⟨p', np', cp', q', n', c', rfl⟩ := hb.shape
 obtain ⟨hB, hX, hY, hS⟩ := twice w #[.int .i64 a.st, .slice p np cp, .slice q n c] #[.int .i64 b.st, .slice p' np' cp', .slice q' n' c'] 27 27
 have HB := Lib.hid hB
 have HX := Lib.hid hX
 have HY := Lib.hid hY
 have HMA := Lib.hid (ha.same hB)
 have HMB := Lib.hid (hb.same hB)
 clear hB hX hY hS ha hb
 have HIA := Lib.hid (fun W' hb' => isMachine_any (HMA.out.same (w' := W') hb'))
 have HIB := Lib.hid (fun W' hb' => isMachine_any (HMB.out.same (w' := W') hb'))
 have hxl : w.heap.size < ((w.alloc (.cells #[.int .i64 a.st, .slice p np cp, .slice q n c] 27)).alloc (.cells #[.int .i64 b.st, .slice p' np' cp', .slice q' n' c'] 27)).heap.size := (Array.getElem?_eq_some_iff.1 HX.out).1
 have hyl : w.heap.size + 1 < ((w.alloc (.cells #[.int .i64 a.st, .slice p np cp, .slice q n c] 27)).alloc (.cells #[.int .i64 b.st, .slice p' np' cp', .slice q' n' c'] 27)).heap.size := (Array.getElem?_eq_some_iff.1 HY.out).1
 cases qa : isMac a with
 | false =>
  have HR : Hid (followsP a b = false) := Lib.hid (by unfold followsP; rw [qa]; rfl)
  rw [qa] at HIA
  clear qa
  obtain ⟨x0, x1, x2, -⟩ := three_cells HX.out
  go_enter Tryz.func6, Tryz.ntmps6
  go_wp2_with fail
  clear x0 x1 x2
  generalize (w.alloc (.cells #[.int .i64 a.st, .slice p np cp, .slice q n c] 27)).alloc (.cells #[.int .i64 b.st, .slice p' np' cp', .slice q' n' c'] 27) = W0 at *
  refine (HIA.out W0 (Below.refl _ _)).mono ?_
  rintro e w1 ⟨rfl, hb1⟩
  have HB1 := Lib.hid (HB.out.trans (hb1.mono HB.out.size))
  clear hb1
  go_wp2_with fail
  go_ret
  exact ⟨by rw [HR.out]; try rfl, HB1.out⟩
 | true =>
  cases qb : isMac b with
  | false =>
   have HR : Hid (followsP a b = false) := Lib.hid (by unfold followsP; rw [qb, Bool.false_and, Bool.and_false])
   rw [qa] at HIA
   rw [qb] at HIB
   clear qa qb
   obtain ⟨x0, x1, x2, -⟩ := three_cells HX.out
   go_enter Tryz.func6, Tryz.ntmps6
   go_wp2_with fail
   clear x0 x1 x2
   generalize (w.alloc (.cells #[.int .i64 a.st, .slice p np cp, .slice q n c] 27)).alloc (.cells #[.int .i64 b.st, .slice p' np' cp', .slice q' n' c'] 27) = W0 at *
   refine (HIA.out W0 (Below.refl _ _)).mono ?_
   rintro e w1 ⟨rfl, hb1⟩
   have HB1 := Lib.hid (HB.out.trans (hb1.mono HB.out.size))
   obtain ⟨y0, y1, y2, -⟩ := three_cells ((hb1.block _ hyl).trans HY.out)
   have HD1 := Lib.hid hb1
   clear hb1
   go_wp2_with fail
   clear y0 y1 y2
   refine (HIB.out w1 HD1.out).mono ?_
   rintro e w2 ⟨rfl, hb2⟩
   have HB2 := Lib.hid (HB1.out.trans (hb2.mono HB1.out.size))
   clear hb2
   go_wp2_with fail
   go_ret
   exact ⟨by rw [HR.out]; try rfl, HB2.out⟩
  | true =>
   have HZ := Lib.hid (And.intro (And.intro hz hz') (And.intro qa qb))
   rw [qa] at HIA
   rw [qb] at HIB
   clear qa qb hz hz'
   obtain ⟨x0, x1, x2, -⟩ := three_cells HX.out
   go_enter Tryz.func6, Tryz.ntmps6
   go_wp2_with fail
   clear x0 x1 x2
   generalize (w.alloc (.cells #[.int .i64 a.st, .slice p np cp, .slice q n c] 27)).alloc (.cells #[.int .i64 b.st, .slice p' np' cp', .slice q' n' c'] 27) = W0 at *
   refine (HIA.out W0 (Below.refl _ _)).mono ?_
   rintro e w1 ⟨rfl, hb1⟩
   have HB1 := Lib.hid (HB.out.trans (hb1.mono HB.out.size))
   obtain ⟨y0, y1, y2, -⟩ := three_cells ((hb1.block _ hyl).trans HY.out)
   have HD1 := Lib.hid hb1
   clear hb1
   go_wp2_with fail
   clear y0 y1 y2
   refine (HIB.out w1 HD1.out).mono ?_
   rintro e w2 ⟨rfl, hb2⟩
   have HB2 := Lib.hid (HB1.out.trans (hb2.mono HB1.out.size))
   have HD2 := Lib.hid (HD1.out.trans (hb2.mono HD1.out.size))
   clear hb2
   obtain ⟨x0, x1, x2, -⟩ := three_cells ((HD2.out.block _ hxl).trans HX.out)
   obtain ⟨y0, y1, y2, -⟩ := three_cells ((HD2.out.block _ hyl).trans HY.out)
   have hmk := run_makeSet w2
   go_wp2_with fail
   clear x0 x1 x2 y0 y1 y2
   clear hmk
   have hs2 := HD2.out.size
   refine (followsFrom_any HZ.out.1.1 HZ.out.1.2 HZ.out.2.1 HZ.out.2.2 hn hn' HMA.out HMB.out w2.heap.size hs2 36 (0, 0) [] (w2.alloc (.map #[] 0)) (HD2.out.alloc hs2 _) List.nodup_nil (by simp) ReachG.start (by simp) (met_made w2)).mono ?_
   rintro e w3 ⟨r, M', rfl, hd, hm, hon⟩
   have HR : Hid (followsP a b = r) := Lib.hid (by
    rw [Bool.eq_iff_iff, followsP_iff, hd.whole]
    exact ⟨fun h => h.2.2, fun h => ⟨HZ.out.2.1, HZ.out.2.2, h⟩⟩)
   have hsA : (w2.alloc (.map #[] 0)).heap.size = w2.heap.size + 1 := by simp
   have HB3 : Hid (Below w.heap.size w w3) := Lib.hid (hon.to (HB2.out.alloc HB2.out.size _) HB2.out.size (by have := HB2.out.size; omega))
   clear hd hm hon
   go_wp2_with fail
   go_ret
   exact ⟨by rw [HR.out]; try rfl, HB3.out⟩
end Go.Proofs.YtckmgbobkffabaaGreat
