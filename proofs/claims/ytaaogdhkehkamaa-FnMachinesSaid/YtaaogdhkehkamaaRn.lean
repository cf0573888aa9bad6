/- What a machine reaches by a list of numbers: by the program. -/
import Derived.Test.YtaaogdhkehkamaaRm
import Derived.Test.YtaaogdhkehkamaaIs
namespace Go.Proofs.Ytaaogdhkehkamaa
open Go.ChangeShapes Go.WideShapes Go.ChangeAt Go.RowKit
set_option linter.unusedVariables false
set_option linter.unusedSimpArgs false

theorem zero_move (w : World) : (zeroValue 59).run Try.prog w = .ok (.agg #[.int .i64 0, .bool false, .int .i64 0, .int .i64 0]) w := by kernel_rfl
theorem mv_val_inj {x y : Mv} (h : x.val = y.val) : x = y := by
  cases x; cases y
  simpa [Mv.val] using h
set_option maxHeartbeats 4000000 in
set_option maxRecDepth 100000 in
theorem makeMove_any {g M cnt : Nat} {l : List Mv} {s n : Int} {w : World} (hs : (Lit.int .i64 s).wf = true) (hn : (Lit.int .i64 n).wf = true) (hc : w.heap[g]? = some (.cells #[.int .i64 s] 3 (0, 0))) (hm : ByKey w M cnt l) (hk : Keyed2 l) :
    Calls Try.prog 47 #[.pointer (some ⟨g, 0, none⟩), .map (some M), .int .i64 n] w fun e w' =>
      match l.reverse.find? (hitM s (sendNo n) (msgNo n)) with
      | some y => e = .returned (.bool true) ∧ Below w.heap.size (w.setCell ⟨g, 0, none⟩ (.int .i64 y.to)) w'
      | none => e = .returned (.bool false) ∧ Below w.heap.size w w' := by
  have hwn : -9223372036854775808 ≤ n ∧ n ≤ 9223372036854775807 := by
    simp [Lit.wf, IntKind.min, IntKind.max, IntKind.signed, IntKind.bits] at hn
    omega
  have HKR := Lib.hid (key_read (sendNo n) hs (msgNo_wf hn))
  have HAT := Lib.hid (mr_at (sendNo n) (.held (.agg #[.int .i64 0, .bool false, .int .i64 0, .int .i64 0])) hs (msgNo_wf hn) l.reverse (fun x hx => hk x (List.mem_reverse.1 hx)))
  have HHAS := Lib.hid (mr_has (sendNo n) hs (msgNo_wf hn) l.reverse (fun x hx => hk x (List.mem_reverse.1 hx)))
  have HM := Lib.hid hm
  have HC := Lib.hid hc
  have c0 := (block_cell hc 0).trans rfl
  have f0 := block_frozen hc 0
  have hgl : g < w.heap.size := (Array.getElem?_eq_some_iff.1 hc).1
  clear hm hk hc hs hn
  by_cases h0 : 0 ≤ n
  · have q0 : decide (n ≥ 0) = true := by simpa using h0
    have eS : sendNo n = true := by simpa [sendNo] using h0
    have eM : msgNo n = n := by unfold msgNo; rw [if_pos h0]
    rw [eS, eM] at HKR HAT HHAS ⊢
    clear eS eM
    have HL : Hid (∀ W : World, ByKey W M cnt l → ∃ v, (Instr.lookup 68 (.map (some M)) (.agg #[.int .i64 s, .bool true, .int .i64 n]) true).run Try.prog W = .ok (.tuple #[v, .bool (l.reverse.any (hitM s true (n)))]) W ∧ (match l.reverse.find? (hitM s true (n)) with | some y => v = y.val | none => v = .agg #[.int .i64 0, .bool false, .int .i64 0, .int .i64 0])) := Lib.hid (fun W hW => by
      obtain ⟨v, ps, hrun, hv⟩ := World.ownsMap.look_ok hW key_law Try.underlying68 (zero_move W) (zd := .held (.agg #[.int .i64 0, .bool false, .int .i64 0, .int .i64 0])) (zp := []) rfl HKR.out
      rw [HHAS.out] at hrun
      rw [HAT.out] at hv
      refine ⟨v, hrun, ?_⟩
      unfold heldR at hv
      cases e : l.reverse.find? (hitM s true (n)) with
      | some y => rw [e] at hv; simp at hv; exact hv.1
      | none => rw [e] at hv; simp at hv; exact hv.1)
    have HK1 := Lib.hid (alloc_same w (.cells #[.int .i64 s, .bool true, .int .i64 n] 74))
    obtain ⟨v, hrun, hv⟩ := HL.out _ (World.ownsMap.alloc HM.out (.cells #[.int .i64 s, .bool true, .int .i64 n] 74))
    cases e : l.reverse.find? (hitM s true (n)) with
    | none =>
      rw [e] at hv
      have hany : l.reverse.any (hitM s true (n)) = false := by
        rw [List.find?_eq_none] at e
        rw [List.any_eq_false]
        exact e
      rw [hany] at hrun
      dsimp only at hv
      subst hv
      clear e hany
      go_enter Try.func47, Try.ntmps47
      go_wp2_with fail
      go_ret
      exact ⟨rfl, (HK1.out).alloc HK1.out.size _⟩
    | some y =>
      rw [e] at hv
      have hany : l.reverse.any (hitM s true (n)) = true := List.any_eq_true.2 ⟨y, List.mem_of_find?_eq_some e, List.find?_some e⟩
      rw [hany] at hrun
      dsimp only at hv
      subst hv
      unfold Mv.val at hrun
      have HB2 : Hid (Below w.heap.size w ((w.alloc (.cells #[.int .i64 s, .bool true, .int .i64 n] 74)).alloc (.cells #[.int .i64 y.frm, .bool y.send, .int .i64 y.msg, .int .i64 y.to] 59))) := Lib.hid (HK1.out.alloc HK1.out.size _)
      have hG := (HB2.out.block g hgl).trans HC.out
      have d0 := (block_cell hG 0).trans rfl
      have g0 := block_frozen hG 0
      clear e hany hG
      go_enter Try.func47, Try.ntmps47
      go_wp2_with fail
      go_ret
      exact ⟨rfl, ((Below.refl _ _).alloc (by simp) _).alloc (by simp; try omega) _⟩
  · have q0 : decide (n ≥ 0) = false := by simpa using h0
    have eS : sendNo n = false := by simpa [sendNo] using h0
    have eM : msgNo n = -n - 1 := by unfold msgNo; rw [if_neg h0]
    have ew : RowKit.wrap64 (RowKit.wrap64 (-n) - 1) = -n - 1 := by
      unfold RowKit.wrap64
      omega
    rw [eS, eM] at HKR HAT HHAS ⊢
    clear eS eM
    have HL : Hid (∀ W : World, ByKey W M cnt l → ∃ v, (Instr.lookup 68 (.map (some M)) (.agg #[.int .i64 s, .bool false, .int .i64 (-n - 1)]) true).run Try.prog W = .ok (.tuple #[v, .bool (l.reverse.any (hitM s false (-n - 1)))]) W ∧ (match l.reverse.find? (hitM s false (-n - 1)) with | some y => v = y.val | none => v = .agg #[.int .i64 0, .bool false, .int .i64 0, .int .i64 0])) := Lib.hid (fun W hW => by
      obtain ⟨v, ps, hrun, hv⟩ := World.ownsMap.look_ok hW key_law Try.underlying68 (zero_move W) (zd := .held (.agg #[.int .i64 0, .bool false, .int .i64 0, .int .i64 0])) (zp := []) rfl HKR.out
      rw [HHAS.out] at hrun
      rw [HAT.out] at hv
      refine ⟨v, hrun, ?_⟩
      unfold heldR at hv
      cases e : l.reverse.find? (hitM s false (-n - 1)) with
      | some y => rw [e] at hv; simp at hv; exact hv.1
      | none => rw [e] at hv; simp at hv; exact hv.1)
    have HK1 := Lib.hid (alloc_same w (.cells #[.int .i64 s, .bool false, .int .i64 (-n - 1)] 74))
    obtain ⟨v, hrun, hv⟩ := HL.out _ (World.ownsMap.alloc HM.out (.cells #[.int .i64 s, .bool false, .int .i64 (-n - 1)] 74))
    cases e : l.reverse.find? (hitM s false (-n - 1)) with
    | none =>
      rw [e] at hv
      have hany : l.reverse.any (hitM s false (-n - 1)) = false := by
        rw [List.find?_eq_none] at e
        rw [List.any_eq_false]
        exact e
      rw [hany] at hrun
      dsimp only at hv
      subst hv
      clear e hany
      go_enter Try.func47, Try.ntmps47
      go_wp2_with fail
      go_ret
      exact ⟨rfl, (HK1.out).alloc HK1.out.size _⟩
    | some y =>
      rw [e] at hv
      have hany : l.reverse.any (hitM s false (-n - 1)) = true := List.any_eq_true.2 ⟨y, List.mem_of_find?_eq_some e, List.find?_some e⟩
      rw [hany] at hrun
      dsimp only at hv
      subst hv
      unfold Mv.val at hrun
      have HB2 : Hid (Below w.heap.size w ((w.alloc (.cells #[.int .i64 s, .bool false, .int .i64 (-n - 1)] 74)).alloc (.cells #[.int .i64 y.frm, .bool y.send, .int .i64 y.msg, .int .i64 y.to] 59))) := Lib.hid (HK1.out.alloc HK1.out.size _)
      have hG := (HB2.out.block g hgl).trans HC.out
      have d0 := (block_cell hG 0).trans rfl
      have g0 := block_frozen hG 0
      clear e hany hG
      go_enter Try.func47, Try.ntmps47
      go_wp2_with fail
      go_ret
      exact ⟨rfl, ((Below.refl _ _).alloc (by simp) _).alloc (by simp; try omega) _⟩
set_option maxHeartbeats 4000000 in
set_option maxRecDepth 100000 in
theorem runMachine_any {w : World} {v : Value} {x : Mac} {a0 : Option Addr} {n0 c0 : Nat} {word : List Int} (h : MacW w v x) (hN : Nums .i64 w a0 n0 word) (hF : ∀ z ∈ word, (Lit.int .i64 z).wf = true) :
    Calls Try.prog 15 #[v, .slice a0 n0 c0] w (Told (.int .i64 (runM x word)) w) := by
  obtain ⟨a, n, c, q, m, d, rfl, h1, h2, h3, h4⟩ := h
  have e2 := h2.len
  have HB : Hid (Below w.heap.size w (w.alloc (.cells #[.int .i64 x.st, .slice a n c, .slice q m d] 27))) := Lib.hid (alloc_same w _)
  have HX : Hid ((w.alloc (.cells #[.int .i64 x.st, .slice a n c, .slice q m d] 27)).heap[w.heap.size]? = some (.cells #[.int .i64 x.st, .slice a n c, .slice q m d] 27 (0, 0))) := Lib.hid (heap_alloc_new w (.cells #[.int .i64 x.st, .slice a n c, .slice q m d] 27 (0, 0)))
  have hsz : (w.alloc (.cells #[.int .i64 x.st, .slice a n c, .slice q m d] 27)).heap.size = w.heap.size + 1 := by simp
  have HMW : Hid (MacW (w.alloc (.cells #[.int .i64 x.st, .slice a n c, .slice q m d] 27)) (.agg #[.int .i64 x.st, .slice a n c, .slice q m d]) x) := Lib.hid (MacW.same ⟨a, n, c, q, m, d, rfl, h1, h2, h3, h4⟩ HB.out)
  have H2 := Lib.hid (h2.same HB.out)
  have HN := Lib.hid (hN.same HB.out)
  have HF := Lib.hid hF
  have HE := Lib.hid (And.intro e2 hN.len)
  have hn64 := hN.fits
  have HIM := Lib.hid (fun w' (h : MacW w' (.agg #[.int .i64 x.st, .slice a n c, .slice q m d]) x) => isMachine_any h)
  clear h1 h2 h3 h4 e2 hN hF
  cases q0 : isMac x with
  | false =>
    have HR : Hid (runM x word = -1) := Lib.hid (by simp [runM, q0])
    rw [q0] at HIM
    clear q0
    go_enter Try.func15, Try.ntmps15
    go_wp2_with fail
    generalize (w.alloc (.cells #[.int .i64 x.st, .slice a n c, .slice q m d] 27)) = W0 at *
    refine (HIM.out _ HMW.out).mono ?_
    rintro e w1 ⟨rfl, hb⟩
    have HD1 := Lib.hid hb
    have HB1 := Lib.hid (HB.out.trans (hb.mono HB.out.size))
    obtain ⟨b0, b1, b2, _, _, _⟩ := three_cells ((hb.block w.heap.size (by omega)).trans HX.out)
    clear hb
    go_wp2_with fail
    go_ret
    exact ⟨by rw [HR.out]; try rfl, HB1.out⟩
  | true =>
    have HP := Lib.hid (isMac_parts q0)
    by_cases q1 : n0 ≤ 20
    · have f2 : decide ((n0 : Int) > 20) = false := by simp; omega
      have f3 : decide ((20 : Int) < (n0 : Int)) = false := by simp; omega
      have HR : Hid (runM x word = (runTo x.moves 0 word).getD (-1)) := Lib.hid (by
        unfold runM
        rw [if_pos ⟨q0, by rw [HE.out.2]; exact q1⟩])
      have HK : Hid (Keyed2 x.moves) := Lib.hid (fun z hz => okM_wf HP.out.1.2 (HP.out.2.2.2.1 z hz))
      rw [q0] at HIM
      clear q0
      go_enter Try.func15, Try.ntmps15
      go_wp2_with fail
      generalize (w.alloc (.cells #[.int .i64 x.st, .slice a n c, .slice q m d] 27)) = W0 at *
      refine (HIM.out _ HMW.out).mono ?_
      rintro e w1 ⟨rfl, hb⟩
      have HD1 := Lib.hid hb
      have HB1 := Lib.hid (HB.out.trans (hb.mono HB.out.size))
      obtain ⟨b0, b1, b2, _, _, _⟩ := three_cells ((hb.block w.heap.size (by omega)).trans HX.out)
      clear hb
      go_wp2_with fail
      refine (movesByKey_any (c := d) (H2.out.same HD1.out) HK.out (by have := HP.out.2.2.1; have := HE.out.1; omega)).mono ?_
      rintro e w2 ⟨rfl, hm, hb⟩
      have HM2 := Lib.hid hm
      have HD2 : Hid (Below W0.heap.size W0 w2) := Lib.hid (HD1.out.trans (hb.mono HD1.out.size))
      have hml : w1.heap.size < w2.heap.size := hm.lt
      have hs01 := HD1.out.size
      clear hm hb f2 f3 b0 b1 b2
      go_wp2_with fail
      obtain ⟨G, hG⟩ : ∃ G, G = w2.heap.size := ⟨_, rfl⟩
      obtain ⟨M, hMe⟩ : ∃ M, M = w1.heap.size := ⟨_, rfl⟩
      have HGM : Hid (W0.heap.size ≤ M ∧ M < G) := Lib.hid (by omega)
      have HM3 : Hid (ByKey (w2.alloc (.cells #[.int .i64 0] 3)) M m x.moves) := Lib.hid (by rw [hMe]; exact HM2.out.alloc _)
      have HG3 : Hid ((w2.alloc (.cells #[.int .i64 0] 3)).heap[G]? = some (.cells #[.int .i64 0] 3 (0, 0))) := Lib.hid (by rw [hG]; exact heap_alloc_new w2 _)
      have HD3 : Hid (Below W0.heap.size W0 (w2.alloc (.cells #[.int .i64 0] 3))) := Lib.hid (HD2.out.alloc HD2.out.size _)
      rw [← hG, ← hMe]
      clear hG hMe hml hs01 HM2
      generalize (w2.alloc (.cells #[.int .i64 0] 3)) = W2 at *
      go_loopw [22] (fun i wr => ∃ j : Nat, j ≤ n0 ∧ i = .int .i64 j ∧ (∃ s : Int, runTo x.moves 0 (word.take j) = some s ∧ 0 ≤ s ∧ s ≤ 5 ∧ wr.heap[G]? = some (.cells #[.int .i64 s] 3 (0, 0))) ∧ ByKey wr M m x.moves ∧ Below W0.heap.size W0 wr) (fun i _ => n0 - (intOf i).toNat)
      case atStart => exact ⟨0, Nat.zero_le _, rfl, ⟨0, rfl, by omega, by omega, HG3.out⟩, HM3.out, HD3.out⟩
      case round =>
        obtain ⟨j, hj, rfl, ⟨s, hrun, hs0, hs5, hcell⟩, hmap, hb⟩ := hrel
        have HU := Lib.hid hrun
        have HC := Lib.hid hcell
        have HMR := Lib.hid hmap
        have HB9 := Lib.hid hb
        have HS := Lib.hid (And.intro hs0 hs5)
        clear hrun hcell hmap hb hs0 hs5
        by_cases hlt : j < n0
        · obtain ⟨ad, z, rfl, hz, hc0⟩ := (HN.out.same HB9.out).at_ hlt
          have HZ := Lib.hid hz
          have hwz := HF.out z (List.mem_of_getElem? hz)
          have hws : (Lit.int .i64 s).wf = true := WalkArith.wf_i64 (by have := HS.out; omega)
          have HMV := Lib.hid (makeMove_any hws hwz HC.out HMR.out HK.out)
          have HV := Lib.hid (HP.out.2.2.2.2.rev s (sendNo z) (msgNo z))
          clear hz hwz hws
          cases q2 : nextM x.moves s z with
          | none =>
            have HQ : Hid (runM x word = -1) := Lib.hid (by rw [HR.out, runTo_stop HU.out HZ.out q2]; rfl)
            rw [HV.out, show x.moves.find? (hitM s (sendNo z) (msgNo z)) = none from q2] at HMV
            clear q2
            go_wp2_with fail
            refine HMV.out.mono ?_
            rintro e w4 ⟨rfl, hb⟩
            have HB4 := Lib.hid (HB9.out.trans (hb.mono HB9.out.size))
            clear hb
            go_wp2_with fail
            go_ret
            exact ⟨by rw [HQ.out]; try rfl, HB.out.trans (HB4.out.mono HB.out.size)⟩
          | some y =>
            have HU2 := Lib.hid (runTo_step HU.out HZ.out q2)
            have HY := Lib.hid (okM_to HP.out.1.2 (HP.out.2.2.2.1 y (next_mem q2).1))
            rw [HV.out, show x.moves.find? (hitM s (sendNo z) (msgNo z)) = some y from q2] at HMV
            clear q2
            go_wp2_with fail
            refine HMV.out.mono ?_
            rintro e w4 ⟨rfl, hb⟩
            have hgl : G < wr.heap.size := (Array.getElem?_eq_some_iff.1 HC.out).1
            have hsc : (wr.setCell ⟨G, 0, none⟩ (.int .i64 y.to)).heap.size = wr.heap.size := by simp
            have hg9 := heap_setCell_same wr G 0 _ _ (.int .i64 y.to) HC.out
            have HG9 : Hid (w4.heap[G]? = some (.cells #[.int .i64 y.to] 3 (0, 0))) := Lib.hid ((hb.block G hgl).trans hg9)
            have HM9 : Hid (ByKey w4 M m x.moves) := Lib.hid (World.ownsMap.kept (World.ownsMap.kept HMR.out (put_grown wr G 0 (.int .i64 y.to)) (by have := HGM.out; simp; omega)) (grown_below (by rw [hsc]; exact hb) none) (by simp))
            have HB4 := Lib.hid ((HB9.out.setCell (p := ⟨G, 0, none⟩) (by have := HGM.out; dsimp only; omega) (.int .i64 y.to)).trans (hb.mono (by have := HB9.out.size; omega)))
            clear hb hg9 hsc hgl
            go_wp2_with fail
            go_roundw
            case rel => exact ⟨j + 1, by omega, by go_num, ⟨y.to, HU2.out, HY.out.1, by have := HY.out; have := HP.out.1; omega, HG9.out⟩, HM9.out, HB4.out⟩
            case measure => simp [intOf]; omega
        · obtain rfl : j = n0 := by omega
          have HQ : Hid (runM x word = s) := Lib.hid (by
            have h1 := HU.out
            rw [List.take_of_length_le (by rw [HE.out.2]; omega)] at h1
            rw [HR.out, h1]; rfl)
          have d0 := (block_cell HC.out 0).trans rfl
          go_wp2_with fail
          go_ret
          exact ⟨by rw [HQ.out]; try rfl, HB.out.trans (HB9.out.mono HB.out.size)⟩
    · have f2 : decide ((n0 : Int) > 20) = true := by simp; omega
      have f3 : decide ((20 : Int) < (n0 : Int)) = true := by simp; omega
      have HR : Hid (runM x word = -1) := Lib.hid (by
        unfold runM
        rw [if_neg (fun h => q1 (by rw [← HE.out.2]; exact h.2))])
      rw [q0] at HIM
      clear q0 q1
      go_enter Try.func15, Try.ntmps15
      go_wp2_with fail
      generalize (w.alloc (.cells #[.int .i64 x.st, .slice a n c, .slice q m d] 27)) = W0 at *
      refine (HIM.out _ HMW.out).mono ?_
      rintro e w1 ⟨rfl, hb⟩
      have HD1 := Lib.hid hb
      have HB1 := Lib.hid (HB.out.trans (hb.mono HB.out.size))
      obtain ⟨b0, b1, b2, _, _, _⟩ := three_cells ((hb.block w.heap.size (by omega)).trans HX.out)
      clear hb
      go_wp2_with fail
      go_ret
      exact ⟨by rw [HR.out]; try rfl, HB1.out⟩
end Go.Proofs.Ytaaogdhkehkamaa
