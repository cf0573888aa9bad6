/- The numbers of the moves from a state, by the program. A machine in a state: the messages that it sends, whether it may stop, whether one is left unread: by the program. -/
import Derived.Test.YtckmgbobkffabaaG11
import Derived.Test.YtckmgbobkffabaaG12
import Derived.Test.YtckmgbobkffabaaG3
import Derived.Test.YtckmgbobkffabaaShelf
import Derived.Lib.OwnBridge
import Derived.Sort.OwnSortedInts
import Derived.Handy
import Derived.Test.YtckmgbobkffabaaG15
import Derived.Maps.OwnSet
import Derived.Maps.OwnOps
import Derived.Deep.RegionHeld3
import Derived.Deep.QuietTactic
import Derived.BigQuiet
import Derived.RegionTactic
import Derived.Test.YtckmgbobkffabaaG1
namespace Go.Proofs.Ytckmgbobkffabaa
open Go.ChangeShapes Go.WideShapes Go.ChangeAt Go.RowKit Go.Sort
set_option linter.unusedVariables false
set_option linter.unusedSimpArgs false

theorem nums_new1 (w : World) (o : Obj) (k : IntKind) (x : Int) (t : TypeId) : Nums k ((w.alloc o).alloc (.cells #[.int k x] t)) (some ⟨w.heap.size + 1, 0, none⟩) 1 [x] := by
 have := nums_new (w.alloc o) k x t
 rw [World.size_alloc] at this
 exact this

/-- A slice of integers of the call's own, in the sort's words. -/
theorem own_holds {t : TypeId} {w : World} {B g n c : Nat} {l : List Int} (h : Own .i64 t w B (some ⟨g, 0, none⟩) n c l) : Holds (Value.int .i64) w g 0 l.toArray ∧ g < w.heap.size ∧ B ≤ g ∧ l.length = n ∧ n ≤ c := by
 obtain ⟨g', cap, e, h1, h2, h3, h4, h5, h6⟩ := Lib.holds_of_ownsRow h.2 (fun e => by cases e)
 cases e
 exact ⟨h6, h2, h1, h5, h3⟩
theorem own_sorted {t : TypeId} {w : World} {B g n c k : Nat} {l : List Int} {os : Array Obj} (h : Own .i64 t w B (some ⟨g, 0, none⟩) n c l) :
  Own .i64 t (grow (putRow (Value.int .i64) (Sort.ahead w k) g 0 (sorted l).toArray) os) B (some ⟨g, 0, none⟩) n c (sorted l) := by
 obtain ⟨h1, h2⟩ := h
 refine ⟨by rw [sorted_len]; exact h1, ?_⟩
 rcases h2.2 with ⟨e, _⟩ | ⟨g', cap, cur, e, hb, hg, hn, hm, hs, ht⟩
 ·cases e
 ·cases e
  have := ownsRow_sortedI (n := k) (os := os) (ss := l) (ts := sorted l) (sorted_len l) hb hg (by omega) hm hs
  rw [h1] at this
  exact this
theorem own_compact {t : TypeId} {w : World} {B g n c q : Nat} {l : List Int} (h : Own .i64 t w B (some ⟨g, 0, none⟩) n c l) :
  Own .i64 t (putRow (Value.int .i64) (Sort.ahead w q) g 0 (Lib.compact l ++ List.replicate (l.length - (Lib.compact l).length) 0).toArray) B (some ⟨g, 0, none⟩) (Lib.compact l).length c (Lib.compact l) := by
 have hle := Lib.compact_length_le l
 have hln := h.1
 have h1 := Lib.ownsRow_putRow (q := q) (k := (Lib.compact l).length) (ys := Lib.compact l ++ List.replicate (l.length - (Lib.compact l).length) 0) h.2 (by simp; omega) (by omega)
 rw [List.take_left] at h1
 exact ⟨rfl, h1⟩

set_option maxHeartbeats 2000000 in
set_option maxRecDepth 100000 in
theorem movesFrom_any {w : World} {v : Value} {x : Mac} (s : Int) (b : Bool) (h : MacW w v x) (hn : x.parts ≤ 1000000000) : Calls Try.prog 110 #[v, .int .i64 s, .bool b] w (Made .i64 3 w.heap.size (movesFrom x s b) w) := by
 obtain ⟨a, n, c, q, m, d, rfl, h1, h2, h3⟩ := h
 have HB : Hid (Below w.heap.size w (w.alloc (.cells #[.int .i64 x.st, .slice a n c, .slice q m d] 27))) := Lib.hid (alloc_same w _)
 have HX : Hid ((w.alloc (.cells #[.int .i64 x.st, .slice a n c, .slice q m d] 27)).heap[w.heap.size]? = some (.cells #[.int .i64 x.st, .slice a n c, .slice q m d] 27 (0, 0))) := Lib.hid (heap_alloc_new w (.cells #[.int .i64 x.st, .slice a n c, .slice q m d] 27 (0, 0)))
 have hsz : (w.alloc (.cells #[.int .i64 x.st, .slice a n c, .slice q m d] 27)).heap.size = w.heap.size + 1 := by simp
 have H2 := Lib.hid (h2.same HB.out)
 have hl := h2.len
 have hfit := h2.fits
 have hm9 : m ≤ 1000000000 := by
  unfold Mac.parts at hn
  omega
 have HW2 := Lib.hid h2
 clear h1 h2 h3
 obtain ⟨i0, hi, hz0, hz1, hz2⟩ := info_parts infoIntS
 have HI := Lib.hid (And.intro hi (And.intro hz0 (And.intro hz1 hz2)))
 clear hi hz0 hz1 hz2
 go_enter Try.func110, Try.ntmps110
 go_wp2_with fail
 have HB0 : Hid (Below (w.alloc (.cells #[.int .i64 x.st, .slice a n c, .slice q m d] 27)).heap.size (w.alloc (.cells #[.int .i64 x.st, .slice a n c, .slice q m d] 27)) ((w.alloc (.cells #[.int .i64 x.st, .slice a n c, .slice q m d] 27)).alloc (.cells #[] 3))) := Lib.hid (alloc_same _ _)
 have HO0 : Hid (Own .i64 3 ((w.alloc (.cells #[.int .i64 x.st, .slice a n c, .slice q m d] 27)).alloc (.cells #[] 3)) (w.alloc (.cells #[.int .i64 x.st, .slice a n c, .slice q m d] 27)).heap.size (some ⟨(w.alloc (.cells #[.int .i64 x.st, .slice a n c, .slice q m d] 27)).heap.size, 0, none⟩) 0 0 []) := Lib.hid (Own.empty (Nat.le_refl _))
 have hs0 : ((w.alloc (.cells #[.int .i64 x.st, .slice a n c, .slice q m d] 27)).alloc (.cells #[] 3)).heap.size = w.heap.size + 2 := by simp
 simp only [World.size_alloc] at HO0
 generalize (w.alloc (.cells #[.int .i64 x.st, .slice a n c, .slice q m d] 27)).alloc (.cells #[] 3) = W1 at *
 generalize (w.alloc (.cells #[.int .i64 x.st, .slice a n c, .slice q m d] 27)) = W0 at *
 have b2 := (three_cells ((HB0.out.block w.heap.size (by omega)).trans HX.out)).2.2.1
 go_wp2_with fail
 clear b2
 go_loopw [7, 14] (fun t i wr => ∃ j g k c2 : Nat, j ≤ m ∧ k ≤ j ∧ i = .int .i64 j ∧ t = .slice (some ⟨g, 0, none⟩) k c2 ∧ Own .i64 3 wr w.heap.size (some ⟨g, 0, none⟩) k c2 (msgsOf (x.moves.take j) s b) ∧ Below w.heap.size w wr) (fun _ i _ => m - (intOf i).toNat)
 case atStart => exact ⟨0, _, 0, 0, Nat.zero_le _, Nat.le_refl _, rfl, rfl, by simpa [msgsOf] using HO0.out.lower (B' := w.heap.size) (by omega), HB.out.trans (HB0.out.mono HB.out.size)⟩
 case round =>
  obtain ⟨j, g, k, c2, hj, hk9, rfl, rfl, ho, hb⟩ := hrel
  have HO := Lib.hid ho
  have HB9 := Lib.hid hb
  clear ho hb
  by_cases hlt : j < m
  ·obtain ⟨b1, o1, z, rfl, hx, hc0, hc1, hc2, hc3⟩ := mvs_at (HW2.out.same HB9.out) hlt
   cases hk : fromM s b z with
   | true =>
    have HE := Lib.hid (msgs_yes hx hk)
    obtain ⟨e1, e2⟩ : z.frm = s ∧ z.send = b := by simpa [fromM] using hk
    have hsw := HB9.out.size
    clear hx hk
    rw [e1] at hc0
    rw [e2] at hc1
    clear e1 e2
    go_wp2_with (at_builtin; refine wpl_app _ rfl (.tmp 28) (.tmp 31) 31 rfl .i64 3 i0 (.int .i64 0) 8 Try.underlying31 HI.out.1 HI.out.2.1 HI.out.2.2.1 HI.out.2.2.2 rfl rfl ((HO.out.alloc _).alloc _) rfl (nums_new1 _ _ _ _ _) (by omega) ?c3 ?c4 ?_)
    case c3 => omega
    case c4 => simp; omega
    intro a1 c1 w1 ho1 hb1
    obtain ⟨g1, rfl, hg1, hg2⟩ := ho1.head (by omega)
    have HO1 := Lib.hid ho1
    have HB1 : Hid (Below w.heap.size w w1) := Lib.hid (((HB9.out.alloc HB9.out.size _).alloc (by simp; omega) _).trans hb1)
    clear ho1 hb1
    go_wp2_with fail
    go_roundw
    case rel => exact ⟨j + 1, g1, k + 1, c1, by omega, by omega, by go_num, by simp, by rw [HE.out]; exact HO1.out, HB1.out⟩
    case measure => simp [intOf]; omega
   | false =>
    have HE := Lib.hid (msgs_no hx hk)
    clear hx
    by_cases h1 : z.frm = s
    ·have h3 : (z.send == b) = false := by
      rw [fromM, h1] at hk
      simpa using hk
     rw [h1] at hc0
     clear hk h1
     go_wp2_with fail
     go_roundw
     case rel => exact ⟨j + 1, g, k, c2, by omega, by omega, by go_num, rfl, by rw [HE.out]; exact HO.out.alloc _, HB9.out.alloc HB9.out.size _⟩
     case measure => simp [intOf]; omega
    ·have h3 : (z.frm == s) = false := by simpa using h1
     clear hk h1
     go_wp2_with fail
     go_roundw
     case rel => exact ⟨j + 1, g, k, c2, by omega, by omega, by go_num, rfl, by rw [HE.out]; exact HO.out.alloc _, HB9.out.alloc HB9.out.size _⟩
     case measure => simp [intOf]; omega
  ·obtain rfl : j = m := by omega
   have h1 := HO.out
   rw [List.take_of_length_le (by omega)] at h1
   obtain ⟨hH, hlt', hge, hlen, hcap⟩ := own_holds h1
   have hso := Try.slices_Sort_int g 0 c2 (msgsOf x.moves s b) wr hH hlt' (by omega)
   rw [hlen] at hso
   have HS := Lib.hid hso
   have HO2 := Lib.hid h1
   clear hH hso h1
   go_wp2_with fail
   refine HS.out.mono ?_
   rintro e w1 ⟨rfl, kk, os, rfl⟩
   have ho3 := own_sorted (k := kk) (os := os) HO2.out
   obtain ⟨hH2, hlt2, _, hlen2, _⟩ := own_holds ho3
   have hco := Try.slices_Compact_int g 0 c2 (sorted (msgsOf x.moves s b)) _ hH2 (by omega) (by omega)
   rw [hlen2] at hco
   have HO3 := Lib.hid ho3
   have HC := Lib.hid hco
   have HB3 : Hid (Below w.heap.size w (grow (putRow (Value.int .i64) (Sort.ahead wr kk) g 0 (sorted (msgsOf x.moves s b)).toArray) os)) := Lib.hid (HB9.out.grown (grownBy_sortedI _) HB9.out.size (fun _ e => by cases e; exact hge))
   clear ho3 hH2 hco
   go_wp2_with fail
   refine HC.out.mono ?_
   rintro e w2 ⟨rfl, q, rfl⟩
   have ho4 := own_compact (q := q) HO3.out
   rw [hlen2] at ho4
   have HO4 := Lib.hid ho4
   clear ho4
   have HB4 := Lib.hid (Lib.below_putRow (q := q) (enc := Value.int .i64) (d := (Lib.compact (sorted (msgsOf x.moves s b)) ++ List.replicate (k - (Lib.compact (sorted (msgsOf x.moves s b))).length) 0).toArray) HB3.out hge)
   go_wp2
   go_ret
   refine ⟨_, _, _, rfl, ?_, HB4.out⟩
   unfold movesFrom
   rw [puts_eq]
   exact HO4.out
end Go.Proofs.Ytckmgbobkffabaa
namespace Go.Proofs.Ytckmgbobkffabaa
open Go.ChangeShapes Go.WideShapes Go.ChangeAt Go.RowKit
set_option linter.unusedVariables false
set_option linter.unusedSimpArgs false

set_option maxRecDepth 100000 in
theorem sent_any {v : Value} {x : Mac} (s : Int) {w : World} (h : MacW w v x) (hn : x.parts ≤ 1000000000) :
  Calls Try.prog 95 #[partyV v s] w (Made .i64 3 w.heap.size (movesFrom x s true) w) := by
 obtain ⟨p, np, cp, a, n, c, rfl⟩ := h.shape
 have HB := Lib.hid (alloc_same w (.cells #[.int .i64 x.st, .slice p np cp, .slice a n c, .int .i64 s] 73))
 have HM := Lib.hid (h.same HB.out)
 have C := Lib.hid (four_at (heap_alloc_new w (.cells #[.int .i64 x.st, .slice p np cp, .slice a n c, .int .i64 s] 73 (0, 0))))
 clear h
 show Calls Try.prog 95 #[.agg #[.int .i64 x.st, .slice p np cp, .slice a n c, .int .i64 s]] w _
 go_enter Try.func95, Try.ntmps95
 go_wp2_with fail
 generalize (w.alloc (.cells #[.int .i64 x.st, .slice p np cp, .slice a n c, .int .i64 s] 73)) = W0 at *
 refine (movesFrom_any s true HM.out hn).mono ?_
 rintro e w1 ⟨a1, n1, c1, rfl, ho, hb⟩
 have HO := Lib.hid (ho.lower HB.out.size)
 have HB1 := Lib.hid (HB.out.trans (hb.mono HB.out.size))
 clear ho hb
 go_wp2_with fail
 go_ret
 exact ⟨_, _, _, rfl, HO.out, HB1.out⟩

set_option maxRecDepth 100000 in
theorem mayStop_any {v : Value} {x : Mac} (s : Int) {w : World} (h : MacW w v x) :
  Calls Try.prog 61 #[partyV v s] w (Told (.bool (stopP x s)) w) := by
 obtain ⟨p, np, cp, a, n, c, rfl, hbl, hmv, ⟨hr1, hr2⟩, hr3, hr4⟩ := h
 have hlen := hbl.len
 have HB := Lib.hid (alloc_same w (.cells #[.int .i64 x.st, .slice p np cp, .slice a n c, .int .i64 s] 73))
 have HL := Lib.hid (hbl.same HB.out)
 have C := Lib.hid (four_at (heap_alloc_new w (.cells #[.int .i64 x.st, .slice p np cp, .slice a n c, .int .i64 s] 73 (0, 0))))
 have HI := Lib.hid (inRange_told s 0 ((np : Int) - 1))
 have HS : Hid (stopP x s = (inB s 0 ((np : Int) - 1) && x.ends.getD s.toNat false)) := Lib.hid (by unfold stopP; rw [hlen])
 clear hbl hmv
 show Calls Try.prog 61 #[.agg #[.int .i64 x.st, .slice p np cp, .slice a n c, .int .i64 s]] w _
 cases q : inB s 0 ((np : Int) - 1) with
 | false =>
  unfold inB at q
  rw [q] at HI
  have HR : Hid (stopP x s = false) := Lib.hid (by rw [HS.out]; simp [inB, q])
  clear q
  go_enter Try.func61, Try.ntmps61
  go_wp2_with fail
  generalize (w.alloc (.cells #[.int .i64 x.st, .slice p np cp, .slice a n c, .int .i64 s] 73)) = W0 at *
  refine (HI.out _).mono ?_
  rintro e w1 ⟨rfl, hb⟩
  have HB1 := Lib.hid (HB.out.trans (hb.mono HB.out.size))
  clear hb
  go_wp2_with fail
  go_ret
  exact ⟨by rw [HR.out]; try rfl, HB1.out⟩
 | true =>
  have hq := q
  unfold inB at q
  rw [q] at HI
  simp only [inB, Bool.and_eq_true, decide_eq_true_eq] at hq
  obtain ⟨j, rfl⟩ : ∃ j : Nat, s = (j : Int) := ⟨s.toNat, by omega⟩
  have hj : j < np := by omega
  obtain ⟨b1, o1, z, rfl, hz, hcz⟩ := bls_at HL.out hj
  have HR : Hid (stopP x (j : Int) = z) := Lib.hid (by
   rw [HS.out]
   simp only [Int.toNat_natCast, List.getD, hz, Option.getD_some, inB]
   rw [q, Bool.true_and])
  clear q hz
  go_enter Try.func61, Try.ntmps61
  go_wp2_with fail
  generalize (w.alloc (.cells #[.int .i64 x.st, .slice (some ⟨b1, o1, none⟩) np cp, .slice a n c, .int .i64 (j : Int)] 73)) = W0 at *
  refine (HI.out _).mono ?_
  rintro e w1 ⟨rfl, hb⟩
  have HB1 := Lib.hid (HB.out.trans (hb.mono HB.out.size))
  have c1 := cell_stay C.out.2.1 hb
  have c3 := cell_stay C.out.2.2.2 hb
  have cz := cell_stay hcz hb
  clear hb
  go_wp2_with fail
  go_ret
  exact ⟨by rw [HR.out]; try rfl, HB1.out⟩
set_option maxRecDepth 100000 in
theorem unread1_any {k : Int} {zs : List Mv} {t : Int} {g gb n : Nat} {w : World} (hk : (Lit.int .i64 k).wf = true) (hc : w.cell? ⟨gb, 0, none⟩ = some (.map (some g))) (hm : w.ownsMap Try.prog 3 (plainElem (H := Unit) Try.prog 3) g n (nx t false zs)) :
  Calls Try.prog 96 #[.int .i64 k, .pointer (some ⟨gb, 0, none⟩)] w (Told (.bool (toOf zs t false k).isNone) w) := by
 have hkey := Maps.keyOf_int_mk Try.underlying3 hk
 have HH := Lib.hid (nx_has t false k zs)
 have HM := Lib.hid hm
 clear hm
 cases q : toOf zs t false k with
 | none =>
  rw [q] at HH
  clear q
  go_enter Try.func96, Try.ntmps96
  go_wp2_with (at_lookup; refine wpList_lookup_own_ok_int _ rfl _ _ 107 rfl 3 3 .i64 intM_keys Try.underlying107 Try.underlying3 (mapI_zero _) g n (nx t false zs) rfl HM.out _ _ rfl hkey ?_; intro cc hcc _; rw [HH.out])
  go_ret
  exact ⟨rfl, Below.refl _ _⟩
 | some r =>
  rw [q] at HH
  clear q
  go_enter Try.func96, Try.ntmps96
  go_wp2_with (at_lookup; refine wpList_lookup_own_ok_int _ rfl _ _ 107 rfl 3 3 .i64 intM_keys Try.underlying107 Try.underlying3 (mapI_zero _) g n (nx t false zs) rfl HM.out _ _ rfl hkey ?_; intro cc hcc _; rw [HH.out])
  go_ret
  exact ⟨rfl, Below.refl _ _⟩
set_option maxRecDepth 100000 in
/-- The library's IndexFunc at integers, for a closure that is told by a contract of its own. -/
theorem indexUnread_any {ptr : Value} {p : Int → Bool} {a : Option Addr} {n c : Nat} {l : List Int} {w : World} (h : Nums .i64 w a n l)
  (HF : ∀ (x : Int) (w' : World), x ∈ l → Below w.heap.size w w' → Calls Try.prog 96 #[.int .i64 x, ptr] w' (Told (.bool (p x)) w')) :
  Calls Try.prog 109 #[.slice a n c, .func (.func 96) #[] #[ptr]] w (Told (.int .i64 (firstAt p l)) w) := by
 have H := Lib.hid h
 have hl := h.len
 have hfit := h.fits
 have HC := Lib.hid HF
 clear h HF
 go_enter Try.func109, Try.ntmps109
 go_wp2_with fail
 go_loopw [8] (fun i wr => ∃ j : Nat, j ≤ n ∧ i = .int .i64 j ∧ (l.take j).any p = false ∧ Below w.heap.size w wr) (fun i _ => n - (intOf i).toNat)
 case atStart => exact ⟨0, Nat.zero_le _, rfl, by simp, Below.refl _ _⟩
 case round =>
  obtain ⟨j, hj, rfl, hno, hb⟩ := hrel
  have HN := Lib.hid hno
  have HB := Lib.hid hb
  clear hno hb
  by_cases hlt : j < n
  ·obtain ⟨ad, x, rfl, hx, hc0⟩ := (H.out.same HB.out).at_ hlt
   have HR := HC.out x wr (List.mem_of_getElem? hx) HB.out
   cases hk : p x with
   | true =>
    have HE := Lib.hid (firstAt_hit hx HN.out hk)
    rw [hk] at HR
    have HQ := Lib.hid HR
    clear hx hk HR
    go_wp2_with fail
    refine HQ.out.mono ?_
    rintro e w2 ⟨rfl, hb2⟩
    have HB2 := Lib.hid (HB.out.trans (hb2.mono HB.out.size))
    clear hb2
    go_wp2_with fail
    go_ret
    exact ⟨by rw [HE.out]; try rfl, HB2.out⟩
   | false =>
    have HS : Hid ((l.take (j + 1)).any p = false) := Lib.hid (by
     rw [List.take_add_one, hx, List.any_append, HN.out]
     simp [hk])
    rw [hk] at HR
    have HQ := Lib.hid HR
    clear hx hk HR
    go_wp2_with fail
    refine HQ.out.mono ?_
    rintro e w2 ⟨rfl, hb2⟩
    have HB2 := Lib.hid (HB.out.trans (hb2.mono HB.out.size))
    clear hb2
    go_wp2_with fail
    go_roundw
    case rel => exact ⟨j + 1, by omega, by go_num, HS.out, HB2.out⟩
    case measure => simp [intOf]; omega
  ·obtain rfl : j = n := by omega
   have h1 := HN.out
   rw [List.take_of_length_le (by omega)] at h1
   have HE := Lib.hid (firstAt_none h1)
   clear h1
   go_wp2_with fail
   go_ret
   exact ⟨by rw [HE.out]; try rfl, HB.out⟩
set_option maxRecDepth 100000 in
theorem containsUnread_any {ptr : Value} {p : Int → Bool} {a : Option Addr} {n c : Nat} {l : List Int} {w : World} (h : Nums .i64 w a n l)
  (HF : ∀ (x : Int) (w' : World), x ∈ l → Below w.heap.size w w' → Calls Try.prog 96 #[.int .i64 x, ptr] w' (Told (.bool (p x)) w')) :
  Calls Try.prog 94 #[.slice a n c, .func (.func 96) #[] #[ptr]] w (Told (.bool (l.any p)) w) := by
 have HI := Lib.hid (indexUnread_any (c := c) h HF)
 have HE := Lib.hid (firstAt_any p l)
 clear h HF
 go_enter Try.func94, Try.ntmps94
 go_wp2_with fail
 refine HI.out.mono ?_
 rintro e w1 ⟨rfl, hb⟩
 have HB1 := Lib.hid hb
 clear hb
 go_wp2_with fail
 go_ret
 exact ⟨by rw [← HE.out]; try rfl, HB1.out⟩
end Go.Proofs.Ytckmgbobkffabaa
