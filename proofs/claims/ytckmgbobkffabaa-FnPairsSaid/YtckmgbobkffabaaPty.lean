/- A machine in a state: the messages that it sends, whether it may stop, whether one is left unread: by the program. -/
import Derived.Test.YtckmgbobkffabaaNxu
import Derived.Test.YtckmgbobkffabaaMf
import Derived.Maps.OwnSet
import Derived.Maps.OwnOps
import Derived.Deep.RegionHeld3
import Derived.Deep.QuietTactic
import Derived.BigQuiet
import Derived.RegionTactic
import Derived.Handy
namespace Go.Proofs.Ytckmgbobkffabaa
open Go.ChangeShapes Go.WideShapes Go.ChangeAt Go.RowKit
set_option linter.unusedVariables false
set_option linter.unusedSimpArgs false

set_option maxRecDepth 100000 in
theorem sent_any {v : Value} {x : Mac} (s : Int) {w : World} (h : MacW w v x) (hn : x.parts ≤ 1000000000) :
    Calls Try.prog 95 #[partyV v s] w (Made .i64 3 w.heap.size (movesFrom x s true) w) := by
  obtain ⟨p, np, cp, a, n, c, rfl⟩ := h.shape
  have HB := Lib.hid (alloc_same w (.cells #[.int .i64 x.st, .slice p np cp, .slice a n c, .int .i64 s] 73))
  have HM := Lib.hid (h.same HB.out)
  have C := Lib.hid (four_at (heap_alloc_new w (.cells #[.int .i64 x.st, .slice p np cp, .slice a n c, .int .i64 s] 73 (0, 0))))
  clear h
  show Calls Try.prog 95 #[.agg #[.int .i64 x.st, .slice p np cp, .slice a n c, .int .i64 s]] w _
  go_enter Try.func95, Try.ntmps95
  go_wp2_with fail
  generalize (w.alloc (.cells #[.int .i64 x.st, .slice p np cp, .slice a n c, .int .i64 s] 73)) = W0 at *
  refine (movesFrom_any s true HM.out hn).mono ?_
  rintro e w1 ⟨a1, n1, c1, rfl, ho, hb⟩
  have HO := Lib.hid (ho.lower HB.out.size)
  have HB1 := Lib.hid (HB.out.trans (hb.mono HB.out.size))
  clear ho hb
  go_wp2_with fail
  go_ret
  exact ⟨_, _, _, rfl, HO.out, HB1.out⟩

set_option maxRecDepth 100000 in
theorem mayStop_any {v : Value} {x : Mac} (s : Int) {w : World} (h : MacW w v x) :
    Calls Try.prog 61 #[partyV v s] w (Told (.bool (stopP x s)) w) := by
  obtain ⟨p, np, cp, a, n, c, rfl, hbl, hmv, ⟨hr1, hr2⟩, hr3, hr4⟩ := h
  have hlen := hbl.len
  have HB := Lib.hid (alloc_same w (.cells #[.int .i64 x.st, .slice p np cp, .slice a n c, .int .i64 s] 73))
  have HL := Lib.hid (hbl.same HB.out)
  have C := Lib.hid (four_at (heap_alloc_new w (.cells #[.int .i64 x.st, .slice p np cp, .slice a n c, .int .i64 s] 73 (0, 0))))
  have HI := Lib.hid (inRange_told s 0 ((np : Int) - 1))
  have HS : Hid (stopP x s = (inB s 0 ((np : Int) - 1) && x.ends.getD s.toNat false)) := Lib.hid (by unfold stopP; rw [hlen])
  clear hbl hmv
  show Calls Try.prog 61 #[.agg #[.int .i64 x.st, .slice p np cp, .slice a n c, .int .i64 s]] w _
  cases q : inB s 0 ((np : Int) - 1) with
  | false =>
    unfold inB at q
    rw [q] at HI
    have HR : Hid (stopP x s = false) := Lib.hid (by rw [HS.out]; simp [inB, q])
    clear q
    go_enter Try.func61, Try.ntmps61
    go_wp2_with fail
    generalize (w.alloc (.cells #[.int .i64 x.st, .slice p np cp, .slice a n c, .int .i64 s] 73)) = W0 at *
    refine (HI.out _).mono ?_
    rintro e w1 ⟨rfl, hb⟩
    have HB1 := Lib.hid (HB.out.trans (hb.mono HB.out.size))
    clear hb
    go_wp2_with fail
    go_ret
    exact ⟨by rw [HR.out]; try rfl, HB1.out⟩
  | true =>
    have hq := q
    unfold inB at q
    rw [q] at HI
    simp only [inB, Bool.and_eq_true, decide_eq_true_eq] at hq
    obtain ⟨j, rfl⟩ : ∃ j : Nat, s = (j : Int) := ⟨s.toNat, by omega⟩
    have hj : j < np := by omega
    obtain ⟨b1, o1, z, rfl, hz, hcz⟩ := bls_at HL.out hj
    have HR : Hid (stopP x (j : Int) = z) := Lib.hid (by
      rw [HS.out]
      simp only [Int.toNat_natCast, List.getD, hz, Option.getD_some, inB]
      rw [q, Bool.true_and])
    clear q hz
    go_enter Try.func61, Try.ntmps61
    go_wp2_with fail
    generalize (w.alloc (.cells #[.int .i64 x.st, .slice (some ⟨b1, o1, none⟩) np cp, .slice a n c, .int .i64 (j : Int)] 73)) = W0 at *
    refine (HI.out _).mono ?_
    rintro e w1 ⟨rfl, hb⟩
    have HB1 := Lib.hid (HB.out.trans (hb.mono HB.out.size))
    have c1 := cell_stay C.out.2.1 hb
    have c3 := cell_stay C.out.2.2.2 hb
    have cz := cell_stay hcz hb
    clear hb
    go_wp2_with fail
    go_ret
    exact ⟨by rw [HR.out]; try rfl, HB1.out⟩
set_option maxRecDepth 100000 in
theorem unread1_any {k : Int} {zs : List Mv} {t : Int} {g gb n : Nat} {w : World} (hk : (Lit.int .i64 k).wf = true) (hc : w.cell? ⟨gb, 0, none⟩ = some (.map (some g))) (hm : w.ownsMap Try.prog 3 (plainElem (H := Unit) Try.prog 3) g n (nx t false zs)) :
    Calls Try.prog 96 #[.int .i64 k, .pointer (some ⟨gb, 0, none⟩)] w (Told (.bool (toOf zs t false k).isNone) w) := by
  have hkey := Maps.keyOf_int_mk Try.underlying3 hk
  have HH := Lib.hid (nx_has t false k zs)
  have HM := Lib.hid hm
  clear hm
  cases q : toOf zs t false k with
  | none =>
    rw [q] at HH
    clear q
    go_enter Try.func96, Try.ntmps96
    go_wp2_with (at_lookup; refine wpList_lookup_own_ok_int _ rfl _ _ 107 rfl 3 3 .i64 intM_keys Try.underlying107 Try.underlying3 (mapI_zero _) g n (nx t false zs) rfl HM.out _ _ rfl hkey ?_; intro cc hcc _; rw [HH.out])
    go_ret
    exact ⟨rfl, Below.refl _ _⟩
  | some r =>
    rw [q] at HH
    clear q
    go_enter Try.func96, Try.ntmps96
    go_wp2_with (at_lookup; refine wpList_lookup_own_ok_int _ rfl _ _ 107 rfl 3 3 .i64 intM_keys Try.underlying107 Try.underlying3 (mapI_zero _) g n (nx t false zs) rfl HM.out _ _ rfl hkey ?_; intro cc hcc _; rw [HH.out])
    go_ret
    exact ⟨rfl, Below.refl _ _⟩
set_option maxRecDepth 100000 in
/-- The library's IndexFunc at integers, for a closure that is told by a contract of its own. -/
theorem indexUnread_any {ptr : Value} {p : Int → Bool} {a : Option Addr} {n c : Nat} {l : List Int} {w : World} (h : Nums .i64 w a n l)
    (HF : ∀ (x : Int) (w' : World), x ∈ l → Below w.heap.size w w' → Calls Try.prog 96 #[.int .i64 x, ptr] w' (Told (.bool (p x)) w')) :
    Calls Try.prog 109 #[.slice a n c, .func (.func 96) #[] #[ptr]] w (Told (.int .i64 (firstAt p l)) w) := by
  have H := Lib.hid h
  have hl := h.len
  have hfit := h.fits
  have HC := Lib.hid HF
  clear h HF
  go_enter Try.func109, Try.ntmps109
  go_wp2_with fail
  go_loopw [8] (fun i wr => ∃ j : Nat, j ≤ n ∧ i = .int .i64 j ∧ (l.take j).any p = false ∧ Below w.heap.size w wr) (fun i _ => n - (intOf i).toNat)
  case atStart => exact ⟨0, Nat.zero_le _, rfl, by simp, Below.refl _ _⟩
  case round =>
    obtain ⟨j, hj, rfl, hno, hb⟩ := hrel
    have HN := Lib.hid hno
    have HB := Lib.hid hb
    clear hno hb
    by_cases hlt : j < n
    · obtain ⟨ad, x, rfl, hx, hc0⟩ := (H.out.same HB.out).at_ hlt
      have HR := HC.out x wr (List.mem_of_getElem? hx) HB.out
      cases hk : p x with
      | true =>
        have HE := Lib.hid (firstAt_hit hx HN.out hk)
        rw [hk] at HR
        have HQ := Lib.hid HR
        clear hx hk HR
        go_wp2_with fail
        refine HQ.out.mono ?_
        rintro e w2 ⟨rfl, hb2⟩
        have HB2 := Lib.hid (HB.out.trans (hb2.mono HB.out.size))
        clear hb2
        go_wp2_with fail
        go_ret
        exact ⟨by rw [HE.out]; try rfl, HB2.out⟩
      | false =>
        have HS : Hid ((l.take (j + 1)).any p = false) := Lib.hid (by
          rw [List.take_add_one, hx, List.any_append, HN.out]
          simp [hk])
        rw [hk] at HR
        have HQ := Lib.hid HR
        clear hx hk HR
        go_wp2_with fail
        refine HQ.out.mono ?_
        rintro e w2 ⟨rfl, hb2⟩
        have HB2 := Lib.hid (HB.out.trans (hb2.mono HB.out.size))
        clear hb2
        go_wp2_with fail
        go_roundw
        case rel => exact ⟨j + 1, by omega, by go_num, HS.out, HB2.out⟩
        case measure => simp [intOf]; omega
    · obtain rfl : j = n := by omega
      have h1 := HN.out
      rw [List.take_of_length_le (by omega)] at h1
      have HE := Lib.hid (firstAt_none h1)
      clear h1
      go_wp2_with fail
      go_ret
      exact ⟨by rw [HE.out]; try rfl, HB.out⟩
set_option maxRecDepth 100000 in
theorem containsUnread_any {ptr : Value} {p : Int → Bool} {a : Option Addr} {n c : Nat} {l : List Int} {w : World} (h : Nums .i64 w a n l)
    (HF : ∀ (x : Int) (w' : World), x ∈ l → Below w.heap.size w w' → Calls Try.prog 96 #[.int .i64 x, ptr] w' (Told (.bool (p x)) w')) :
    Calls Try.prog 94 #[.slice a n c, .func (.func 96) #[] #[ptr]] w (Told (.bool (l.any p)) w) := by
  have HI := Lib.hid (indexUnread_any (c := c) h HF)
  have HE := Lib.hid (firstAt_any p l)
  clear h HF
  go_enter Try.func94, Try.ntmps94
  go_wp2_with fail
  refine HI.out.mono ?_
  rintro e w1 ⟨rfl, hb⟩
  have HB1 := Lib.hid hb
  clear hb
  go_wp2_with fail
  go_ret
  exact ⟨by rw [← HE.out]; try rfl, HB1.out⟩
end Go.Proofs.Ytckmgbobkffabaa
