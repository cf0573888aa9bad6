/- How many lists of small numbers are accepted, by the model: a queue of lists, each of which is followed by the three that are one longer. -/
import Derived.Test.YtpbmmepoddbefaaCnt
import Derived.Test.YtpbmmepoddbefaaQue
import Derived.Test.YtpbmmepoddbefaaRpM
import Derived.Deep.LoopGhost
namespace Go.Proofs.Ytpbmmepoddbefaa
open Go.ChangeShapes Go.WideShapes Go.ChangeAt Go.RowKit
set_option linter.unusedVariables false
set_option linter.unusedSimpArgs false

theorem infoRows : (Try.prog.info? 29).map (fun i => (i.zero, i.size, i.bytes)) = some (some (.slice none 0 0), 1, 24) := by kernel_rfl
/-- How many lists are to come, and how many of them are accepted. -/
def muQ (q : Nat) (Q : List (List Int)) : Nat := (Q.map fun y => szOf (q - y.length)).sum
noncomputable def sumQ (l : List Fd) (q : Nat) (Q : List (List Int)) : Nat := (Q.map fun y => cntFrom l (q - y.length) y).sum
/-- The first lists that are one longer. -/
def chOf (y : List Int) : Nat → List (List Int)
  | 0 => []
  | k + 1 => chOf y k ++ [y ++ [(k : Int)]]
theorem chOf_len (y : List Int) : ∀ k, (chOf y k).length = k
  | 0 => rfl
  | k + 1 => by rw [chOf, List.length_append, chOf_len]; rfl
theorem chOf_mem (y : List Int) : ∀ k, ∀ z ∈ chOf y k, z.length = y.length + 1
  | 0 => fun z h => by simp [chOf] at h
  | k + 1 => fun z h => by
    rw [chOf, List.mem_append] at h
    rcases h with h | h
    · exact chOf_mem y k z h
    · rw [List.mem_singleton.1 h]; simp
theorem muQ_app (q : Nat) (A B : List (List Int)) : muQ q (A ++ B) = muQ q A + muQ q B := by simp [muQ]
theorem sumQ_app (l : List Fd) (q : Nat) (A B : List (List Int)) : sumQ l q (A ++ B) = sumQ l q A + sumQ l q B := by simp [sumQ]
theorem muQ_one (q : Nat) (y : List Int) : muQ q [y] = szOf (q - y.length) := by simp [muQ]
theorem sumQ_one (l : List Fd) (q : Nat) (y : List Int) : sumQ l q [y] = cntFrom l (q - y.length) y := by simp [sumQ]
theorem muQ_cons (q : Nat) (y : List Int) (Q : List (List Int)) : muQ q (y :: Q) = szOf (q - y.length) + muQ q Q := by simp [muQ]
theorem sumQ_cons (l : List Fd) (q : Nat) (y : List Int) (Q : List (List Int)) : sumQ l q (y :: Q) = cntFrom l (q - y.length) y + sumQ l q Q := by simp [sumQ]
theorem muQ_len (q : Nat) : ∀ Q : List (List Int), Q.length ≤ muQ q Q
  | [] => Nat.zero_le _
  | y :: Q => by have := muQ_len q Q; have := szOf_pos (q - y.length); rw [muQ_cons, List.length_cons]; omega
theorem muQ_ch (q : Nat) (y : List Int) : ∀ k, muQ q (chOf y k) = k * szOf (q - y.length - 1)
  | 0 => by simp [chOf, muQ]
  | k + 1 => by rw [chOf, muQ_app, muQ_ch, muQ_one, List.length_append, List.length_singleton, Nat.add_mul, Nat.one_mul, Nat.sub_add_eq]
theorem sumQ_ch (l : List Fd) (q : Nat) (y : List Int) : ∀ k, sumQ l q (chOf y k) = partS (fun x => cntFrom l (q - y.length - 1) (y ++ [(x : Int)])) k
  | 0 => by simp [chOf, sumQ, partS]
  | k + 1 => by rw [chOf, sumQ_app, sumQ_ch, sumQ_one, List.length_append, List.length_singleton, partS, Nat.sub_add_eq]
/-- The head gives way to its followers. -/
theorem step_more {l : List Fd} {q : Nat} {y : List Int} (Q : List (List Int)) (h : y.length < q) : muQ q (y :: Q) = muQ q (Q ++ chOf y 3) + 1 ∧ sumQ l q (y :: Q) = okN l y + sumQ l q (Q ++ chOf y 3) := by
  obtain ⟨r, hr⟩ : ∃ r, q - y.length = r + 1 := ⟨q - y.length - 1, by omega⟩
  rw [muQ_cons, muQ_app, muQ_ch, sumQ_cons, sumQ_app, sumQ_ch, hr, szOf, cntFrom, Nat.add_sub_cancel]
  omega
theorem step_last {l : List Fd} {q : Nat} {y : List Int} (Q : List (List Int)) (h : y.length = q) : muQ q (y :: Q) = muQ q Q + 1 ∧ sumQ l q (y :: Q) = okN l y + sumQ l q Q := by
  have e : q - y.length = 0 := by omega
  rw [muQ_cons, sumQ_cons, e, szOf, cntFrom]
  omega
theorem Rw.of_own {w : World} {a : Option Addr} {c n : Nat} {B : Nat} {Q : List (List Int)} {p : Option Addr} {m d : Nat} {y : List Int} {t : TypeId} {w0 : World} (h : Own .i64 t w w0.heap.size p m d y) (hq : Qs B w0 a n c Q) : Rw w a c p m d y :=
  ⟨h.nums, h.room, fun hc ad bd ha hb => by
    have h1 := (h.span ad ha).1
    have h2 := (hq.lt hc hb).2
    omega, fun ad ha => (h.span ad ha).2⟩

set_option maxHeartbeats 8000000 in
set_option maxRecDepth 100000 in
theorem specCountMessages_any (a : Option Addr) (n c : Nat) (l : List Fd) (most : Int) (w : World) (h : Fds w a n l) (hn : n ≤ 1000000000) :
    Calls Try.prog 31 #[.slice a n c, .int .i64 most] w (Told (.int .i64 (cntMsg l most)) w) := by
  have H := Lib.hid h
  clear h
  by_cases hmost : 0 ≤ most ∧ most ≤ 5
  · obtain ⟨q, rfl⟩ : ∃ q : Nat, most = q := ⟨most.toNat, by omega⟩
    have hq5 : q ≤ 5 := by omega
    have HE : Hid (cntMsg l (q : Int) = ((cntFrom l q [] : Nat) : Int)) := Lib.hid (by unfold cntMsg; rw [if_pos hmost, Int.toNat_natCast])
    have hd : decide ((0 : Int) ≤ (q : Int) ∧ (q : Int) ≤ 5) = true := decide_eq_true hmost
    obtain ⟨i1, hi, hz0, hz1, hz2⟩ := info_parts infoIntS
    have HJ := Lib.hid (And.intro hi (And.intro hz0 (And.intro hz1 hz2)))
    clear hi hz0 hz1 hz2
    obtain ⟨i2, hi, hz0, hz1, hz2⟩ := info_parts infoRows
    have HK := Lib.hid (And.intro hi (And.intro hz0 (And.intro hz1 hz2)))
    clear hi hz0 hz1 hz2
    obtain ⟨tot, htot⟩ : ∃ tot, tot = cntFrom l q [] := ⟨_, rfl⟩
    have HT := Lib.hid htot
    have HMU := Lib.hid (szOf_few hq5)
    clear htot hmost
    have HW1 : Hid (Below w.heap.size w ((w.alloc (.cells #[] 3)).alloc (.cells #[.slice (some ⟨w.heap.size, 0, none⟩) 0 0] 29))) := Lib.hid (((Below.refl _ w).alloc (Nat.le_refl _) _).alloc (by simp) _)
    have HQ1 : Hid (Qs w.heap.size ((w.alloc (.cells #[] 3)).alloc (.cells #[.slice (some ⟨w.heap.size, 0, none⟩) 0 0] 29)) (some ⟨w.heap.size + 1, 0, none⟩) 1 1 [[]]) := by
      have hb : ((w.alloc (.cells #[] 3)).alloc (.cells #[.slice (some ⟨w.heap.size, 0, none⟩) 0 0] 29)).heap[w.heap.size + 1]? = some (.cells #[.slice (some ⟨w.heap.size, 0, none⟩) 0 0] 29 (0, 0)) := by
        have := heap_alloc_new (w.alloc (.cells #[] 3)) (.cells #[.slice (some ⟨w.heap.size, 0, none⟩) 0 0] 29 (0, 0))
        simpa using this
      refine Lib.hid ⟨rfl, ⟨Nat.le_refl _, by unfold maxLen; omega⟩, fun _ => ⟨w.heap.size + 1, 0, rfl, Nat.le_succ _, fun j hj => ?_, fun j y hy => ?_⟩⟩
      · obtain rfl : j = 0 := by omega
        exact ⟨⟨_, (block_cell hb 0).trans rfl⟩, block_frozen hb 0⟩
      · have hj : j = 0 := by have := lt_of_someQ hy; simp at this; omega
        subst hj
        cases hy
        refine ⟨_, 0, 0, (block_cell hb 0).trans rfl, Nums.none, ⟨Nat.le_refl _, by omega⟩, fun _ ad bd ha hb => ?_, fun ad ha => ?_⟩
        · cases ha
          cases hb
          dsimp only
          omega
        · cases ha
          simp
          omega
    go_enter Try.func31, Try.ntmps31
    go_wp2_with fail
    refine (l1R_t (n := (q : Int)) hd _).mono ?_
    rintro e w' ⟨rfl, ew⟩
    rw [show w' = w from ew]
    clear ew
    go_wp2_with fail
    go_loopg [5, 6] (muQ q [[]]) (fun k v u wr => ∃ (a' : Option Addr) (n' c' : Nat) (Q : List (List Int)) (cnt : Nat), u = .slice a' n' c' ∧ v = .int .i64 (cnt : Int) ∧ Qs w.heap.size wr a' n' c' Q ∧ (∀ y ∈ Q, y.length ≤ q) ∧ muQ q Q = k ∧ cnt + sumQ l q Q = tot ∧ cnt + k ≤ 364 ∧ Below w.heap.size w wr)
    case atStart => exact ⟨_, _, _, [[]], 0, rfl, rfl, HQ1.out, fun y hy => by rw [List.mem_singleton.1 hy]; exact Nat.zero_le _, rfl, by rw [sumQ_one, HT.out]; simp, by rw [muQ_one]; have := HMU.out; simp; omega, HW1.out⟩
    case round =>
      obtain ⟨a', n', c', Q, cnt, rfl, rfl, hQ, hlen, hmu, hsum, hcnt, hb⟩ := hrel
      cases Q with
      | nil =>
        obtain rfl : n' = 0 := hQ.len.symm
        have HS : Hid ((cnt : Int) = cntMsg l (q : Int)) := Lib.hid (by rw [HE.out, ← HT.out, ← hsum]; simp [sumQ])
        have HB := Lib.hid hb
        clear hQ hlen hmu hsum hcnt hb
        go_wp2_with fail
        go_ret
        exact ⟨by rw [← HS.out]; rfl, HB.out⟩
      | cons y Q =>
        obtain ⟨G, o, p, m, d, rfl, hcell, hrw, hn', hc'⟩ := hQ.head
        subst hn'
        have hylen : y.length = m := hrw.nums.len
        have hmq : m ≤ q := by rw [← hylen]; exact hlen y List.mem_cons_self
        have HLEN := Lib.hid (fun z (hz : z ∈ Q) => hlen z (List.mem_cons_of_mem _ hz))
        have HYL := Lib.hid hylen
        have hn0 : (0 : Int) < ((Q.length + 1 : Nat) : Int) := by omega
        have HSTEP : Hid (muQ q (if m < q then Q ++ chOf y 3 else Q) < gk ∧ cnt + okN l y + sumQ l q (if m < q then Q ++ chOf y 3 else Q) = tot ∧ cnt + okN l y + muQ q (if m < q then Q ++ chOf y 3 else Q) ≤ 364) := by
          have hok := okN_le l y
          by_cases e : m < q
          · rw [if_pos e]
            have hs := step_more (l := l) Q (show y.length < q by omega)
            exact Lib.hid ⟨by omega, by omega, by omega⟩
          · rw [if_neg e]
            have hs := step_last (l := l) Q (show y.length = q by omega)
            exact Lib.hid ⟨by omega, by omega, by omega⟩
        have hQn : Q.length ≤ 364 := by
          have h1 := muQ_len q (y :: Q)
          rw [List.length_cons] at h1
          omega
        have hcnt4 : cnt ≤ 364 := by omega
        have KD := specDecodeMessage_any a n c l p m d y wr (H.out.same hb) hrw.nums hrw.room hn (by omega)
        unfold DmTold at KD
        have HQ := Lib.hid hQ
        have HR := Lib.hid hrw
        have HB := Lib.hid hb
        have hroom := hQ.room
        have hcM : (c' : Int) ≤ 9223372036854775807 := by have := hroom.2; unfold maxLen at this; omega
        clear hQ hlen hmu hsum hcnt hrw hb hylen
        have HB := HB
        by_cases h1c : 1 < c'
        · have HQT : Hid (Qs w.heap.size wr (some ⟨G, o + 1, none⟩) Q.length (c' - 1) Q) := Lib.hid (by have := HQ.out.rest h1c; rwa [Nat.add_sub_cancel] at this)
          have HRT := Lib.hid (HR.out.rest hc' (c' - 1))
          have h1I : (1 : Int) < (c' : Int) := by omega
          cases hok : dmOk l y with
          | true =>
            have HOKV : Hid (okN l y = 1) := Lib.hid (okN_yes hok)
            rw [hok] at KD
            clear hok
            go_wp2_with fail
            refine KD.mono ?_
            rintro e w1 ⟨b1, k1, d1, rfl, ho1, hb1⟩
            have HBD := Lib.hid hb1
            have HB1 := Lib.hid (HB.out.trans (hb1.mono HB.out.size))
            clear ho1 hb1 KD
            go_wp2_with fail
            go_loopw [6, 10] (fun u x wi => ∃ (a2 : Option Addr) (n2 c2 i : Nat), u = .slice a2 n2 c2 ∧ x = .int .i64 i ∧ i ≤ 3 ∧ (i = 0 ∨ m < q) ∧ Qs w.heap.size wi a2 n2 c2 (Q ++ chOf y i) ∧ Rw wi a2 c2 p m d y ∧ Below w.heap.size w wi) (fun _ x _ => 3 - (intOf x).toNat)
            case atStart => exact ⟨_, _, _, 0, rfl, rfl, Nat.zero_le _, Or.inl rfl, by rw [chOf, List.append_nil]; exact (HQT.out).same HBD.out, (HRT.out).same HBD.out, HB1.out⟩
            case round =>
              obtain ⟨a2, n2, c2, i, rfl, rfl, hi, hor, hQ2, hR2, hb2⟩ := hrel
              have HQ2 := Lib.hid hQ2
              have HR2 := Lib.hid hR2
              have HB2 := Lib.hid hb2
              have hn2 : n2 ≤ 367 := by
                have := hQ2.len
                rw [List.length_append, chOf_len] at this
                omega
              have hs2 := hb2.size
              clear hQ2 hR2 hb2
              by_cases hgo : i < 3 ∧ m < q
              · obtain ⟨hi3, hm3⟩ := hgo
                have g1 : decide ((i : Int) ≤ 2) = true := decide_eq_true (by omega)
                have g2 : (i : Int) ≤ 2 := by omega
                have g3 : (m : Int) < (q : Int) := by omega
                have KO := Lib.hid (Own.empty (k := .i64) (t := 3) (w := wr) (B := wr.heap.size) (Nat.le_refl _))
                go_wp2_with (at_builtin; refine wpl_app _ rfl (.tmp 45) (.tmp 46) 29 rfl .i64 3 i1 (.int .i64 0) 8 Try.underlying29 HJ.out.1 HJ.out.2.1 HJ.out.2.2.1 HJ.out.2.2.2 rfl rfl KO.out rfl (HR2.out.nums.same (alloc_same _ _)) (by omega) ?c1 ?c2 ?_)
                case c1 => omega
                case c2 => simp
                intro a3 c3 w3 ho3 hb3
                have HO3 := Lib.hid ho3
                have HB3 := Lib.hid ((alloc_same wr (.cells #[] 3)).trans hb3)
                clear ho3 hb3
                go_wp2_with (at_builtin; refine wpl_app _ rfl (.tmp 47) (.tmp 49) 29 rfl .i64 3 i1 (.int .i64 0) 8 Try.underlying29 HJ.out.1 HJ.out.2.1 HJ.out.2.2.1 HJ.out.2.2.2 rfl rfl (HO3.out.alloc _) rfl (nums_new _ _ _ _) (by omega) ?c3 ?c4 ?_)
                case c3 => omega
                case c4 => have := HB3.out.size; simp; omega
                intro a4 c4 w4 ho4 hb4
                have HB4 := Lib.hid (HB3.out.trans (((alloc_same _ _).mono HB3.out.size).trans hb4))
                obtain ⟨g4, rfl, _, _⟩ := ho4.head (by omega)
                have HB5 := Lib.hid (HB4.out.trans ((alloc_same w4 (.cells #[.slice (some ⟨g4, 0, none⟩) (m + 1) c4] 29)).mono HB4.out.size))
                have HR5 : Hid (Rw (w4.alloc (.cells #[.slice (some ⟨g4, 0, none⟩) (m + 1) c4] 29)) a2 c2 (some ⟨g4, 0, none⟩) (m + 1) c4 (y ++ [(i : Int)])) := Lib.hid (Rw.of_own (ho4.alloc _) HQ2.out)
                have HC5 : Hid ((w4.alloc (.cells #[.slice (some ⟨g4, 0, none⟩) (m + 1) c4] 29)).cell? ⟨w4.heap.size, 0, none⟩ = some (.slice (some ⟨g4, 0, none⟩) (m + 1) c4)) := Lib.hid ((block_cell (heap_alloc_new w4 _) 0).trans rfl)
                clear ho4 hb4
                go_wp2_with (at_builtin; refine wpl_push rfl (.tmp 44) (.tmp 51) 79 rfl 29 i2 (.slice none 0 0) 24 Try.underlying79 HK.out.1 HK.out.2.1 HK.out.2.2.1 HK.out.2.2.2 rfl rfl (HQ2.out.same HB5.out) rfl HC5.out HR5.out (by omega) ?c5 ?c6 ?_)
                case c5 => omega
                case c6 => have := HB5.out.size; omega
                intro a6 c6 w6 hQ6 hb6 hR6
                have HQ6 := Lib.hid hQ6
                have HR6 := Lib.hid (hR6 _ _ _ _ (HR2.out.same HB5.out))
                have HB6 := Lib.hid ((HB2.out.trans (HB5.out.mono hs2)).trans hb6)
                clear hQ6 hb6 hR6
                go_wp2_with fail
                go_roundw
                case rel => exact ⟨a6, n2 + 1, c6, i + 1, by go_num, by go_num, by omega, Or.inr hm3, by rw [chOf]; first | exact HQ6.out | (rw [← List.append_assoc]; exact HQ6.out), HR6.out, HB6.out⟩
                case measure => simp [intOf]; omega
              · have HFIN : Hid (Qs w.heap.size wr a2 n2 c2 (if m < q then Q ++ chOf y 3 else Q)) := by
                  by_cases e : m < q
                  · rw [if_pos e]
                    obtain rfl : i = 3 := by omega
                    exact Lib.hid HQ2.out
                  · rw [if_neg e]
                    obtain rfl : i = 0 := by omega
                    have := HQ2.out
                    rw [chOf, List.append_nil] at this
                    exact Lib.hid this
                have HL2 : Hid (∀ z ∈ (if m < q then Q ++ chOf y 3 else Q), z.length ≤ q) := by
                  by_cases e : m < q
                  · rw [if_pos e]
                    refine Lib.hid fun z hz => ?_
                    rcases List.mem_append.1 hz with h | h
                    · exact HLEN.out z h
                    · have := chOf_mem y 3 z h
                      have := HYL.out
                      omega
                  · rw [if_neg e]
                    exact HLEN
                by_cases hi3 : i < 3
                · have g1 : decide ((i : Int) ≤ 2) = true := decide_eq_true (by omega)
                  have g2 : (i : Int) ≤ 2 := by omega
                  have g3 : ¬ (m : Int) < (q : Int) := by omega
                  clear hor hgo
                  go_wp2_with fail
                  go_roundg (muQ q (if m < q then Q ++ chOf y 3 else Q))
                  case measure => exact HSTEP.out.1
                  case rel => exact ⟨a2, n2, c2, _, cnt + okN l y, rfl, by rw [HOKV.out]; rfl, HFIN.out, HL2.out, rfl, HSTEP.out.2.1, HSTEP.out.2.2, HB2.out⟩
                · have g1 : decide ((i : Int) ≤ 2) = false := decide_eq_false (by omega)
                  have g2 : ¬ (i : Int) ≤ 2 := by omega
                  clear hor hgo
                  go_wp2_with fail
                  go_roundg (muQ q (if m < q then Q ++ chOf y 3 else Q))
                  case measure => exact HSTEP.out.1
                  case rel => exact ⟨a2, n2, c2, _, cnt + okN l y, rfl, by rw [HOKV.out]; rfl, HFIN.out, HL2.out, rfl, HSTEP.out.2.1, HSTEP.out.2.2, HB2.out⟩
          | false =>
            have HOKV : Hid (okN l y = 0) := Lib.hid (okN_no hok)
            rw [hok] at KD
            clear hok
            go_wp2_with fail
            refine KD.mono ?_
            rintro e w1 ⟨b1, k1, d1, rfl, ho1, hb1⟩
            have HBD := Lib.hid hb1
            have HB1 := Lib.hid (HB.out.trans (hb1.mono HB.out.size))
            clear ho1 hb1 KD
            go_wp2_with fail
            go_loopw [6, 10] (fun u x wi => ∃ (a2 : Option Addr) (n2 c2 i : Nat), u = .slice a2 n2 c2 ∧ x = .int .i64 i ∧ i ≤ 3 ∧ (i = 0 ∨ m < q) ∧ Qs w.heap.size wi a2 n2 c2 (Q ++ chOf y i) ∧ Rw wi a2 c2 p m d y ∧ Below w.heap.size w wi) (fun _ x _ => 3 - (intOf x).toNat)
            case atStart => exact ⟨_, _, _, 0, rfl, rfl, Nat.zero_le _, Or.inl rfl, by rw [chOf, List.append_nil]; exact (HQT.out).same HBD.out, (HRT.out).same HBD.out, HB1.out⟩
            case round =>
              obtain ⟨a2, n2, c2, i, rfl, rfl, hi, hor, hQ2, hR2, hb2⟩ := hrel
              have HQ2 := Lib.hid hQ2
              have HR2 := Lib.hid hR2
              have HB2 := Lib.hid hb2
              have hn2 : n2 ≤ 367 := by
                have := hQ2.len
                rw [List.length_append, chOf_len] at this
                omega
              have hs2 := hb2.size
              clear hQ2 hR2 hb2
              by_cases hgo : i < 3 ∧ m < q
              · obtain ⟨hi3, hm3⟩ := hgo
                have g1 : decide ((i : Int) ≤ 2) = true := decide_eq_true (by omega)
                have g2 : (i : Int) ≤ 2 := by omega
                have g3 : (m : Int) < (q : Int) := by omega
                have KO := Lib.hid (Own.empty (k := .i64) (t := 3) (w := wr) (B := wr.heap.size) (Nat.le_refl _))
                go_wp2_with (at_builtin; refine wpl_app _ rfl (.tmp 45) (.tmp 46) 29 rfl .i64 3 i1 (.int .i64 0) 8 Try.underlying29 HJ.out.1 HJ.out.2.1 HJ.out.2.2.1 HJ.out.2.2.2 rfl rfl KO.out rfl (HR2.out.nums.same (alloc_same _ _)) (by omega) ?c1 ?c2 ?_)
                case c1 => omega
                case c2 => simp
                intro a3 c3 w3 ho3 hb3
                have HO3 := Lib.hid ho3
                have HB3 := Lib.hid ((alloc_same wr (.cells #[] 3)).trans hb3)
                clear ho3 hb3
                go_wp2_with (at_builtin; refine wpl_app _ rfl (.tmp 47) (.tmp 49) 29 rfl .i64 3 i1 (.int .i64 0) 8 Try.underlying29 HJ.out.1 HJ.out.2.1 HJ.out.2.2.1 HJ.out.2.2.2 rfl rfl (HO3.out.alloc _) rfl (nums_new _ _ _ _) (by omega) ?c3 ?c4 ?_)
                case c3 => omega
                case c4 => have := HB3.out.size; simp; omega
                intro a4 c4 w4 ho4 hb4
                have HB4 := Lib.hid (HB3.out.trans (((alloc_same _ _).mono HB3.out.size).trans hb4))
                obtain ⟨g4, rfl, _, _⟩ := ho4.head (by omega)
                have HB5 := Lib.hid (HB4.out.trans ((alloc_same w4 (.cells #[.slice (some ⟨g4, 0, none⟩) (m + 1) c4] 29)).mono HB4.out.size))
                have HR5 : Hid (Rw (w4.alloc (.cells #[.slice (some ⟨g4, 0, none⟩) (m + 1) c4] 29)) a2 c2 (some ⟨g4, 0, none⟩) (m + 1) c4 (y ++ [(i : Int)])) := Lib.hid (Rw.of_own (ho4.alloc _) HQ2.out)
                have HC5 : Hid ((w4.alloc (.cells #[.slice (some ⟨g4, 0, none⟩) (m + 1) c4] 29)).cell? ⟨w4.heap.size, 0, none⟩ = some (.slice (some ⟨g4, 0, none⟩) (m + 1) c4)) := Lib.hid ((block_cell (heap_alloc_new w4 _) 0).trans rfl)
                clear ho4 hb4
                go_wp2_with (at_builtin; refine wpl_push rfl (.tmp 44) (.tmp 51) 79 rfl 29 i2 (.slice none 0 0) 24 Try.underlying79 HK.out.1 HK.out.2.1 HK.out.2.2.1 HK.out.2.2.2 rfl rfl (HQ2.out.same HB5.out) rfl HC5.out HR5.out (by omega) ?c5 ?c6 ?_)
                case c5 => omega
                case c6 => have := HB5.out.size; omega
                intro a6 c6 w6 hQ6 hb6 hR6
                have HQ6 := Lib.hid hQ6
                have HR6 := Lib.hid (hR6 _ _ _ _ (HR2.out.same HB5.out))
                have HB6 := Lib.hid ((HB2.out.trans (HB5.out.mono hs2)).trans hb6)
                clear hQ6 hb6 hR6
                go_wp2_with fail
                go_roundw
                case rel => exact ⟨a6, n2 + 1, c6, i + 1, by go_num, by go_num, by omega, Or.inr hm3, by rw [chOf]; first | exact HQ6.out | (rw [← List.append_assoc]; exact HQ6.out), HR6.out, HB6.out⟩
                case measure => simp [intOf]; omega
              · have HFIN : Hid (Qs w.heap.size wr a2 n2 c2 (if m < q then Q ++ chOf y 3 else Q)) := by
                  by_cases e : m < q
                  · rw [if_pos e]
                    obtain rfl : i = 3 := by omega
                    exact Lib.hid HQ2.out
                  · rw [if_neg e]
                    obtain rfl : i = 0 := by omega
                    have := HQ2.out
                    rw [chOf, List.append_nil] at this
                    exact Lib.hid this
                have HL2 : Hid (∀ z ∈ (if m < q then Q ++ chOf y 3 else Q), z.length ≤ q) := by
                  by_cases e : m < q
                  · rw [if_pos e]
                    refine Lib.hid fun z hz => ?_
                    rcases List.mem_append.1 hz with h | h
                    · exact HLEN.out z h
                    · have := chOf_mem y 3 z h
                      have := HYL.out
                      omega
                  · rw [if_neg e]
                    exact HLEN
                by_cases hi3 : i < 3
                · have g1 : decide ((i : Int) ≤ 2) = true := decide_eq_true (by omega)
                  have g2 : (i : Int) ≤ 2 := by omega
                  have g3 : ¬ (m : Int) < (q : Int) := by omega
                  clear hor hgo
                  go_wp2_with fail
                  go_roundg (muQ q (if m < q then Q ++ chOf y 3 else Q))
                  case measure => exact HSTEP.out.1
                  case rel => exact ⟨a2, n2, c2, _, cnt + okN l y, rfl, by rw [HOKV.out]; rfl, HFIN.out, HL2.out, rfl, HSTEP.out.2.1, HSTEP.out.2.2, HB2.out⟩
                · have g1 : decide ((i : Int) ≤ 2) = false := decide_eq_false (by omega)
                  have g2 : ¬ (i : Int) ≤ 2 := by omega
                  clear hor hgo
                  go_wp2_with fail
                  go_roundg (muQ q (if m < q then Q ++ chOf y 3 else Q))
                  case measure => exact HSTEP.out.1
                  case rel => exact ⟨a2, n2, c2, _, cnt + okN l y, rfl, by rw [HOKV.out]; rfl, HFIN.out, HL2.out, rfl, HSTEP.out.2.1, HSTEP.out.2.2, HB2.out⟩
        · obtain rfl : c' = 1 := by omega
          obtain rfl : Q = [] := List.eq_nil_of_length_eq_zero (by omega)
          have HQT : Hid (∀ b : Option Addr, Qs w.heap.size wr b 0 0 []) := Lib.hid (fun b => Qs.none b)
          have HRT : Hid (∀ b : Option Addr, Rw wr b 0 p m d y) := Lib.hid (fun b => ⟨HR.out.nums, HR.out.room, fun h => absurd h (by omega), HR.out.lt⟩)
          cases hok : dmOk l y with
          | true =>
            have HOKV : Hid (okN l y = 1) := Lib.hid (okN_yes hok)
            rw [hok] at KD
            clear hok
            go_wp2_with fail
            refine KD.mono ?_
            rintro e w1 ⟨b1, k1, d1, rfl, ho1, hb1⟩
            have HBD := Lib.hid hb1
            have HB1 := Lib.hid (HB.out.trans (hb1.mono HB.out.size))
            clear ho1 hb1 KD
            go_wp2_with fail
            go_loopw [6, 10] (fun u x wi => ∃ (a2 : Option Addr) (n2 c2 i : Nat), u = .slice a2 n2 c2 ∧ x = .int .i64 i ∧ i ≤ 3 ∧ (i = 0 ∨ m < q) ∧ Qs w.heap.size wi a2 n2 c2 ([] ++ chOf y i) ∧ Rw wi a2 c2 p m d y ∧ Below w.heap.size w wi) (fun _ x _ => 3 - (intOf x).toNat)
            case atStart => exact ⟨_, _, _, 0, rfl, rfl, Nat.zero_le _, Or.inl rfl, by rw [chOf, List.append_nil]; exact (HQT.out _).same HBD.out, (HRT.out _).same HBD.out, HB1.out⟩
            case round =>
              obtain ⟨a2, n2, c2, i, rfl, rfl, hi, hor, hQ2, hR2, hb2⟩ := hrel
              have HQ2 := Lib.hid hQ2
              have HR2 := Lib.hid hR2
              have HB2 := Lib.hid hb2
              have hn2 : n2 ≤ 367 := by
                have := hQ2.len
                rw [List.length_append, chOf_len] at this
                omega
              have hs2 := hb2.size
              clear hQ2 hR2 hb2
              by_cases hgo : i < 3 ∧ m < q
              · obtain ⟨hi3, hm3⟩ := hgo
                have g1 : decide ((i : Int) ≤ 2) = true := decide_eq_true (by omega)
                have g2 : (i : Int) ≤ 2 := by omega
                have g3 : (m : Int) < (q : Int) := by omega
                have KO := Lib.hid (Own.empty (k := .i64) (t := 3) (w := wr) (B := wr.heap.size) (Nat.le_refl _))
                go_wp2_with (at_builtin; refine wpl_app _ rfl (.tmp 45) (.tmp 46) 29 rfl .i64 3 i1 (.int .i64 0) 8 Try.underlying29 HJ.out.1 HJ.out.2.1 HJ.out.2.2.1 HJ.out.2.2.2 rfl rfl KO.out rfl (HR2.out.nums.same (alloc_same _ _)) (by omega) ?c1 ?c2 ?_)
                case c1 => omega
                case c2 => simp
                intro a3 c3 w3 ho3 hb3
                have HO3 := Lib.hid ho3
                have HB3 := Lib.hid ((alloc_same wr (.cells #[] 3)).trans hb3)
                clear ho3 hb3
                go_wp2_with (at_builtin; refine wpl_app _ rfl (.tmp 47) (.tmp 49) 29 rfl .i64 3 i1 (.int .i64 0) 8 Try.underlying29 HJ.out.1 HJ.out.2.1 HJ.out.2.2.1 HJ.out.2.2.2 rfl rfl (HO3.out.alloc _) rfl (nums_new _ _ _ _) (by omega) ?c3 ?c4 ?_)
                case c3 => omega
                case c4 => have := HB3.out.size; simp; omega
                intro a4 c4 w4 ho4 hb4
                have HB4 := Lib.hid (HB3.out.trans (((alloc_same _ _).mono HB3.out.size).trans hb4))
                obtain ⟨g4, rfl, _, _⟩ := ho4.head (by omega)
                have HB5 := Lib.hid (HB4.out.trans ((alloc_same w4 (.cells #[.slice (some ⟨g4, 0, none⟩) (m + 1) c4] 29)).mono HB4.out.size))
                have HR5 : Hid (Rw (w4.alloc (.cells #[.slice (some ⟨g4, 0, none⟩) (m + 1) c4] 29)) a2 c2 (some ⟨g4, 0, none⟩) (m + 1) c4 (y ++ [(i : Int)])) := Lib.hid (Rw.of_own (ho4.alloc _) HQ2.out)
                have HC5 : Hid ((w4.alloc (.cells #[.slice (some ⟨g4, 0, none⟩) (m + 1) c4] 29)).cell? ⟨w4.heap.size, 0, none⟩ = some (.slice (some ⟨g4, 0, none⟩) (m + 1) c4)) := Lib.hid ((block_cell (heap_alloc_new w4 _) 0).trans rfl)
                clear ho4 hb4
                go_wp2_with (at_builtin; refine wpl_push rfl (.tmp 44) (.tmp 51) 79 rfl 29 i2 (.slice none 0 0) 24 Try.underlying79 HK.out.1 HK.out.2.1 HK.out.2.2.1 HK.out.2.2.2 rfl rfl (HQ2.out.same HB5.out) rfl HC5.out HR5.out (by omega) ?c5 ?c6 ?_)
                case c5 => omega
                case c6 => have := HB5.out.size; omega
                intro a6 c6 w6 hQ6 hb6 hR6
                have HQ6 := Lib.hid hQ6
                have HR6 := Lib.hid (hR6 _ _ _ _ (HR2.out.same HB5.out))
                have HB6 := Lib.hid ((HB2.out.trans (HB5.out.mono hs2)).trans hb6)
                clear hQ6 hb6 hR6
                go_wp2_with fail
                go_roundw
                case rel => exact ⟨a6, n2 + 1, c6, i + 1, by go_num, by go_num, by omega, Or.inr hm3, by rw [chOf]; first | exact HQ6.out | (rw [← List.append_assoc]; exact HQ6.out), HR6.out, HB6.out⟩
                case measure => simp [intOf]; omega
              · have HFIN : Hid (Qs w.heap.size wr a2 n2 c2 (if m < q then [] ++ chOf y 3 else [])) := by
                  by_cases e : m < q
                  · rw [if_pos e]
                    obtain rfl : i = 3 := by omega
                    exact Lib.hid HQ2.out
                  · rw [if_neg e]
                    obtain rfl : i = 0 := by omega
                    have := HQ2.out
                    rw [chOf, List.append_nil] at this
                    exact Lib.hid this
                have HL2 : Hid (∀ z ∈ (if m < q then [] ++ chOf y 3 else []), z.length ≤ q) := by
                  by_cases e : m < q
                  · rw [if_pos e]
                    refine Lib.hid fun z hz => ?_
                    rcases List.mem_append.1 hz with h | h
                    · exact HLEN.out z h
                    · have := chOf_mem y 3 z h
                      have := HYL.out
                      omega
                  · rw [if_neg e]
                    exact HLEN
                by_cases hi3 : i < 3
                · have g1 : decide ((i : Int) ≤ 2) = true := decide_eq_true (by omega)
                  have g2 : (i : Int) ≤ 2 := by omega
                  have g3 : ¬ (m : Int) < (q : Int) := by omega
                  clear hor hgo
                  go_wp2_with fail
                  go_roundg (muQ q (if m < q then [] ++ chOf y 3 else []))
                  case measure => exact HSTEP.out.1
                  case rel => exact ⟨a2, n2, c2, _, cnt + okN l y, rfl, by rw [HOKV.out]; rfl, HFIN.out, HL2.out, rfl, HSTEP.out.2.1, HSTEP.out.2.2, HB2.out⟩
                · have g1 : decide ((i : Int) ≤ 2) = false := decide_eq_false (by omega)
                  have g2 : ¬ (i : Int) ≤ 2 := by omega
                  clear hor hgo
                  go_wp2_with fail
                  go_roundg (muQ q (if m < q then [] ++ chOf y 3 else []))
                  case measure => exact HSTEP.out.1
                  case rel => exact ⟨a2, n2, c2, _, cnt + okN l y, rfl, by rw [HOKV.out]; rfl, HFIN.out, HL2.out, rfl, HSTEP.out.2.1, HSTEP.out.2.2, HB2.out⟩
          | false =>
            have HOKV : Hid (okN l y = 0) := Lib.hid (okN_no hok)
            rw [hok] at KD
            clear hok
            go_wp2_with fail
            refine KD.mono ?_
            rintro e w1 ⟨b1, k1, d1, rfl, ho1, hb1⟩
            have HBD := Lib.hid hb1
            have HB1 := Lib.hid (HB.out.trans (hb1.mono HB.out.size))
            clear ho1 hb1 KD
            go_wp2_with fail
            go_loopw [6, 10] (fun u x wi => ∃ (a2 : Option Addr) (n2 c2 i : Nat), u = .slice a2 n2 c2 ∧ x = .int .i64 i ∧ i ≤ 3 ∧ (i = 0 ∨ m < q) ∧ Qs w.heap.size wi a2 n2 c2 ([] ++ chOf y i) ∧ Rw wi a2 c2 p m d y ∧ Below w.heap.size w wi) (fun _ x _ => 3 - (intOf x).toNat)
            case atStart => exact ⟨_, _, _, 0, rfl, rfl, Nat.zero_le _, Or.inl rfl, by rw [chOf, List.append_nil]; exact (HQT.out _).same HBD.out, (HRT.out _).same HBD.out, HB1.out⟩
            case round =>
              obtain ⟨a2, n2, c2, i, rfl, rfl, hi, hor, hQ2, hR2, hb2⟩ := hrel
              have HQ2 := Lib.hid hQ2
              have HR2 := Lib.hid hR2
              have HB2 := Lib.hid hb2
              have hn2 : n2 ≤ 367 := by
                have := hQ2.len
                rw [List.length_append, chOf_len] at this
                omega
              have hs2 := hb2.size
              clear hQ2 hR2 hb2
              by_cases hgo : i < 3 ∧ m < q
              · obtain ⟨hi3, hm3⟩ := hgo
                have g1 : decide ((i : Int) ≤ 2) = true := decide_eq_true (by omega)
                have g2 : (i : Int) ≤ 2 := by omega
                have g3 : (m : Int) < (q : Int) := by omega
                have KO := Lib.hid (Own.empty (k := .i64) (t := 3) (w := wr) (B := wr.heap.size) (Nat.le_refl _))
                go_wp2_with (at_builtin; refine wpl_app _ rfl (.tmp 45) (.tmp 46) 29 rfl .i64 3 i1 (.int .i64 0) 8 Try.underlying29 HJ.out.1 HJ.out.2.1 HJ.out.2.2.1 HJ.out.2.2.2 rfl rfl KO.out rfl (HR2.out.nums.same (alloc_same _ _)) (by omega) ?c1 ?c2 ?_)
                case c1 => omega
                case c2 => simp
                intro a3 c3 w3 ho3 hb3
                have HO3 := Lib.hid ho3
                have HB3 := Lib.hid ((alloc_same wr (.cells #[] 3)).trans hb3)
                clear ho3 hb3
                go_wp2_with (at_builtin; refine wpl_app _ rfl (.tmp 47) (.tmp 49) 29 rfl .i64 3 i1 (.int .i64 0) 8 Try.underlying29 HJ.out.1 HJ.out.2.1 HJ.out.2.2.1 HJ.out.2.2.2 rfl rfl (HO3.out.alloc _) rfl (nums_new _ _ _ _) (by omega) ?c3 ?c4 ?_)
                case c3 => omega
                case c4 => have := HB3.out.size; simp; omega
                intro a4 c4 w4 ho4 hb4
                have HB4 := Lib.hid (HB3.out.trans (((alloc_same _ _).mono HB3.out.size).trans hb4))
                obtain ⟨g4, rfl, _, _⟩ := ho4.head (by omega)
                have HB5 := Lib.hid (HB4.out.trans ((alloc_same w4 (.cells #[.slice (some ⟨g4, 0, none⟩) (m + 1) c4] 29)).mono HB4.out.size))
                have HR5 : Hid (Rw (w4.alloc (.cells #[.slice (some ⟨g4, 0, none⟩) (m + 1) c4] 29)) a2 c2 (some ⟨g4, 0, none⟩) (m + 1) c4 (y ++ [(i : Int)])) := Lib.hid (Rw.of_own (ho4.alloc _) HQ2.out)
                have HC5 : Hid ((w4.alloc (.cells #[.slice (some ⟨g4, 0, none⟩) (m + 1) c4] 29)).cell? ⟨w4.heap.size, 0, none⟩ = some (.slice (some ⟨g4, 0, none⟩) (m + 1) c4)) := Lib.hid ((block_cell (heap_alloc_new w4 _) 0).trans rfl)
                clear ho4 hb4
                go_wp2_with (at_builtin; refine wpl_push rfl (.tmp 44) (.tmp 51) 79 rfl 29 i2 (.slice none 0 0) 24 Try.underlying79 HK.out.1 HK.out.2.1 HK.out.2.2.1 HK.out.2.2.2 rfl rfl (HQ2.out.same HB5.out) rfl HC5.out HR5.out (by omega) ?c5 ?c6 ?_)
                case c5 => omega
                case c6 => have := HB5.out.size; omega
                intro a6 c6 w6 hQ6 hb6 hR6
                have HQ6 := Lib.hid hQ6
                have HR6 := Lib.hid (hR6 _ _ _ _ (HR2.out.same HB5.out))
                have HB6 := Lib.hid ((HB2.out.trans (HB5.out.mono hs2)).trans hb6)
                clear hQ6 hb6 hR6
                go_wp2_with fail
                go_roundw
                case rel => exact ⟨a6, n2 + 1, c6, i + 1, by go_num, by go_num, by omega, Or.inr hm3, by rw [chOf]; first | exact HQ6.out | (rw [← List.append_assoc]; exact HQ6.out), HR6.out, HB6.out⟩
                case measure => simp [intOf]; omega
              · have HFIN : Hid (Qs w.heap.size wr a2 n2 c2 (if m < q then [] ++ chOf y 3 else [])) := by
                  by_cases e : m < q
                  · rw [if_pos e]
                    obtain rfl : i = 3 := by omega
                    exact Lib.hid HQ2.out
                  · rw [if_neg e]
                    obtain rfl : i = 0 := by omega
                    have := HQ2.out
                    rw [chOf, List.append_nil] at this
                    exact Lib.hid this
                have HL2 : Hid (∀ z ∈ (if m < q then [] ++ chOf y 3 else []), z.length ≤ q) := by
                  by_cases e : m < q
                  · rw [if_pos e]
                    refine Lib.hid fun z hz => ?_
                    rcases List.mem_append.1 hz with h | h
                    · exact HLEN.out z h
                    · have := chOf_mem y 3 z h
                      have := HYL.out
                      omega
                  · rw [if_neg e]
                    exact HLEN
                by_cases hi3 : i < 3
                · have g1 : decide ((i : Int) ≤ 2) = true := decide_eq_true (by omega)
                  have g2 : (i : Int) ≤ 2 := by omega
                  have g3 : ¬ (m : Int) < (q : Int) := by omega
                  clear hor hgo
                  go_wp2_with fail
                  go_roundg (muQ q (if m < q then [] ++ chOf y 3 else []))
                  case measure => exact HSTEP.out.1
                  case rel => exact ⟨a2, n2, c2, _, cnt + okN l y, rfl, by rw [HOKV.out]; rfl, HFIN.out, HL2.out, rfl, HSTEP.out.2.1, HSTEP.out.2.2, HB2.out⟩
                · have g1 : decide ((i : Int) ≤ 2) = false := decide_eq_false (by omega)
                  have g2 : ¬ (i : Int) ≤ 2 := by omega
                  clear hor hgo
                  go_wp2_with fail
                  go_roundg (muQ q (if m < q then [] ++ chOf y 3 else []))
                  case measure => exact HSTEP.out.1
                  case rel => exact ⟨a2, n2, c2, _, cnt + okN l y, rfl, by rw [HOKV.out]; rfl, HFIN.out, HL2.out, rfl, HSTEP.out.2.1, HSTEP.out.2.2, HB2.out⟩
  · have HE : Hid (cntMsg l most = 0) := Lib.hid (by unfold cntMsg; rw [if_neg hmost])
    have hd : decide ((0 : Int) ≤ most ∧ most ≤ 5) = false := decide_eq_false hmost
    go_enter Try.func31, Try.ntmps31
    go_wp2_with fail
    refine (l1R_t (n := most) hd _).mono ?_
    rintro e w' ⟨rfl, rfl⟩
    go_wp2_with fail
    go_ret
    exact ⟨by rw [HE.out]; rfl, Below.refl _ _⟩
end Go.Proofs.Ytpbmmepoddbefaa
