/- The extensions whose tags are asked for, by the program: what it asks is a function that may have captured a variable. Whether a list of tags, a list of extensions holds a reserved tag; the extensions whose tag is not reserved: by the program. What the law of reserved values asks of its parts. The helpers of the exact laws at lists of values: marked, looked at. The helpers of the exact laws at lists of extensions: marked, looked at. -/
import Derived.Test.YtgkacnngodamgaaG12
import Derived.Test.YtgkacnngodamgaaG15
import Derived.Test.YtgkacnngodamgaaG8
import Derived.Test.YtgkacnngodamgaaG2
import Derived.Test.YtgkacnngodamgaaG3
import Derived.Deep.QuietTactic
import Derived.BigQuiet
import Derived.RegionTactic
import Derived.Handy
namespace Go.Proofs.Ytgkacnngodamgaa
open Go.ChangeShapes Go.WideShapes Go.ChangeAt Go.RowKit
set_option linter.unusedVariables false
set_option linter.unusedSimpArgs false

set_option maxHeartbeats 4000000 in
set_option maxRecDepth 100000 in
theorem extsWhereS_any (f : Int → Bool) {a : Option Addr} {n c : Nat} {l : List Vl} {w : World} (h : Vals w a n l) (hz : ∀ z ∈ tagsX l, (Lit.int .i64 z).wf = true)
    (hA : ∀ (k : Int) (W : World), (Lit.int .i64 k).wf = true → Below w.heap.size w W → Calls Try.prog 65 #[.int .i64 k] W (Told (.bool (f k)) W)) (hn : n ≤ 1048576) (hit : itemsOf l ≤ 1048576) :
    Calls Try.prog 55 #[.slice a n c, .func (.func 65) #[] #[]] w (MadeV 57 3 w.heap.size (whX f l) w) := by
  have H := Lib.hid h
  have hln := Lib.hid h.len
  have HZ := Lib.hid hz
  have HA := Lib.hid hA
  obtain ⟨i0, hi, hz0, hz1, hz2⟩ := info_parts infoExtS
  have HI := Lib.hid (And.intro hi (And.intro hz0 (And.intro hz1 hz2)))
  have HO : Hid (OwnV 57 3 (w.alloc (.cells #[] 57)) w.heap.size (some ⟨w.heap.size, 0, none⟩) 0 0 (whX f (l.take 0))) := Lib.hid (OwnV.empty (Nat.le_refl _))
  clear h hz hA hi hz0 hz1 hz2
  go_enter Try.func55, Try.ntmps55
  go_wp2_with fail
  go_loopw [5, 11] (fun v i wr => ∃ (j : Nat) (q : Option Addr) (r e : Nat), j ≤ n ∧ i = .int .i64 j ∧ v = .slice q r e ∧ OwnV 57 3 wr w.heap.size q r e (whX f (l.take j)) ∧ Below w.heap.size w wr) (fun _ i _ => n - (intOf i).toNat)
  case atStart => exact ⟨0, _, _, _, Nat.zero_le _, rfl, rfl, HO.out, alloc_same _ _⟩
  case round =>
    obtain ⟨j, q, r, e, hj, rfl, rfl, hown, hb⟩ := hrel
    have HO2 := Lib.hid hown
    have HB2 := Lib.hid hb
    clear hown hb
    by_cases hlt : j < n
    · obtain ⟨bb, o, p, pm, pd, k, y, rfl, hx, hc0, hc1, hN, hr⟩ := (H.out.same HB2.out).at_ hlt
      have hsz := HB2.out.size
      have hym := hN.len
      have hyi := itemsOf_mem hx
      dsimp only at hyi
      have hrl : r ≤ 1048576 := by
        have h1 := HO2.out.len
        have h2 := wh_few f (l.take j)
        rw [List.length_take] at h2
        omega
      have HW : Hid (Below wr.heap.size wr (wr.alloc (.cells #[.int .i64 k, .slice p pm pd] 57))) := Lib.hid (alloc_same _ _)
      have HWc : Hid ((wr.alloc (.cells #[.int .i64 k, .slice p pm pd] 57)).cell? ⟨wr.heap.size, 0, none⟩ = some (.int .i64 k) ∧ (wr.alloc (.cells #[.int .i64 k, .slice p pm pd] 57)).cell? ⟨wr.heap.size, 1, none⟩ = some (.slice p pm pd)) := Lib.hid ⟨block_cell (heap_alloc_new wr _) 0, block_cell (heap_alloc_new wr _) 1⟩
      have hs2 : wr.heap.size ≤ (wr.alloc (.cells #[.int .i64 k, .slice p pm pd] 57)).heap.size := HW.out.size
      have HK := Lib.hid (HA.out k (wr.alloc (.cells #[.int .i64 k, .slice p pm pd] 57)) (HZ.out k (tags_mem hx)) (HB2.out.trans (HW.out.mono hsz)))
      have HNp := Lib.hid hN
      cases hk : f k with
      | true =>
        have HF : Hid (whX f (l.take (j + 1)) = whX f (l.take j) ++ [⟨k, y⟩]) := Lib.hid (wh_yes hx hk)
        rw [hk] at HK
        clear hx hN hk
        go_wp2_with fail
        refine HK.out.mono ?_
        rintro e2 w2 ⟨rfl, hb2⟩
        have HB3 : Hid (Below wr.heap.size wr w2) := Lib.hid (HW.out.trans (hb2.mono hs2))
        have c0 := cell_stay HWc.out.1 hb2
        have c1 := cell_stay HWc.out.2 hb2
        have hs3 := HB3.out.size
        have HC := Lib.hid (copyExt_any k p pm pd y w2 (HNp.out.same HB3.out) (by omega))
        unfold MadeX at HC
        clear hb2 HK
        go_wp2_with fail
        refine HC.out.mono ?_
        rintro e3 w3 ⟨q3, m3, d3, rfl, ho3, hb3⟩
        have HO3 := Lib.hid ho3
        have HB4 := Lib.hid (HB3.out.trans (hb3.mono hs3))
        have hs4 := HB4.out.size
        have HNN : Hid (Items Vh.enc 2 (w3.alloc (.cells #[.int .i64 k, .slice q3 m3 d3] 57)) (some ⟨w3.heap.size, 0, none⟩) 1 [⟨k, q3, m3, d3⟩]) := Lib.hid (items_new Vh.enc_len w3 ⟨k, q3, m3, d3⟩ 57)
        clear hb3 hc0 hc1 ho3 c0 c1
        go_wp2_with (at_builtin; refine wpl_appV (S := wr.heap.size) (B := w.heap.size) _ rfl (.tmp 19) (.tmp 22) 24 rfl 57 3 i0 (.agg #[.int .i64 0, .slice none 0 0]) 32 Try.underlying24 HI.out.1 HI.out.2.1 HI.out.2.2.1 HI.out.2.2.2 rfl rfl ((HO2.out.lim.same HB4.out).same (alloc_same _ _)) rfl HNN.out ((HO3.out.lower (by omega)).alloc _) (fun ad e => by have := (HO3.out.span ad e).1; omega) (by omega) ?c4 ?c5 ?_)
        case c4 => omega
        case c5 => simp; omega
        intro a4 c4 w4 ho4 hb4
        have HO4 : Hid (OwnV 57 3 w4 w.heap.size a4 (r + 1) c4 (whX f (l.take (j + 1)))) := Lib.hid (by rw [HF.out]; exact ho4)
        have HB5 : Hid (Below w.heap.size w w4) := Lib.hid ((HB2.out.trans (HB4.out.mono hsz)).trans ((((alloc_same _ _).mono (Nat.le_trans hsz hs4))).trans hb4))
        clear ho4 hb4
        go_wp2_with fail
        go_roundw
        case rel => exact ⟨j + 1, a4, _, c4, by omega, by go_num, rfl, HO4.out, HB5.out⟩
        case measure => simp [intOf]; omega
      | false =>
        have HF : Hid (whX f (l.take (j + 1)) = whX f (l.take j)) := Lib.hid (wh_no hx hk)
        rw [hk] at HK
        clear hx hN hk
        go_wp2_with fail
        refine HK.out.mono ?_
        rintro e2 w2 ⟨rfl, hb2⟩
        have HB3 : Hid (Below wr.heap.size wr w2) := Lib.hid (HW.out.trans (hb2.mono hs2))
        clear hb2 HK
        go_wp2_with fail
        go_roundw
        case rel => exact ⟨j + 1, q, r, e, by omega, by go_num, rfl, by rw [HF.out]; exact HO2.out.same HB3.out, HB2.out.trans (HB3.out.mono hsz)⟩
        case measure => simp [intOf]; omega
    · obtain rfl : j = n := by omega
      go_wp2
      go_ret
      have h1 := HO2.out
      rw [List.take_of_length_le (by rw [hln.out]; omega)] at h1
      exact ⟨_, _, _, rfl, h1, HB2.out⟩
end Go.Proofs.Ytgkacnngodamgaa
namespace Go.Proofs.Ytgkacnngodamgaa
open Go.ChangeShapes Go.WideShapes Go.ChangeAt Go.RowKit
set_option linter.unusedVariables false

set_option maxHeartbeats 1000000 in
set_option maxRecDepth 100000 in
theorem indexResv_any {a : Option Addr} {n c : Nat} {y : List Int} {w : World} (h : Nums .i64 w a n y) :
    Calls Try.prog 88 #[.slice a n c, .func (.func 24) #[] #[]] w fun e w' => ∃ r : Int, e = .returned (.int .i64 r) ∧ w = w' ∧ decide (0 ≤ r) = y.any resv := by
  have H := Lib.hid h
  have hl := h.len
  have hfit := h.fits
  clear h
  go_enter Try.func88, Try.ntmps88
  go_wp2_with fail
  go_loop [8] (fun i => ∃ j : Nat, j ≤ n ∧ i = .int .i64 j ∧ (y.take j).any resv = false) (fun i => n - (intOf i).toNat)
  case atStart => exact ⟨0, Nat.zero_le _, rfl, by simp⟩
  case round =>
    obtain ⟨j, hj, rfl, hno⟩ := hrel
    have HN := Lib.hid hno
    clear hno
    by_cases hlt : j < n
    · obtain ⟨ad, z, rfl, hz, hc⟩ := H.out.at_ hlt
      have HR := isReserved_any z
      cases hk : resv z with
      | true =>
        have HE : Hid (decide ((0 : Int) ≤ (j : Int)) = y.any resv) := Lib.hid (by
          rw [decide_eq_true (by omega)]
          exact (List.any_eq_true.2 ⟨z, List.mem_of_getElem? hz, hk⟩).symm)
        rw [hk] at HR
        clear hz hk
        go_wp2_with (go_at_call 24; refine (HR _).mono ?_; rintro e w' ⟨rfl, rfl⟩)
        go_ret
        exact ⟨j, rfl, rfl, HE.out⟩
      | false =>
        have HS : Hid ((y.take (j + 1)).any resv = false) := Lib.hid (by
          rw [List.take_add_one, hz, List.any_append, HN.out]
          simp [hk])
        rw [hk] at HR
        clear hz hk
        go_wp2_with (go_at_call 24; refine (HR _).mono ?_; rintro e w' ⟨rfl, rfl⟩)
        go_round
        case rel => exact ⟨j + 1, by omega, by go_num, HS.out⟩
        case measure => simp [intOf]; omega
    · obtain rfl : j = n := by omega
      have h1 := HN.out
      rw [List.take_of_length_le (by omega)] at h1
      have HE : Hid (decide ((0 : Int) ≤ (-1 : Int)) = y.any resv) := Lib.hid (by rw [h1]; rfl)
      clear h1
      go_wp2_with fail
      go_ret
      exact ⟨-1, rfl, rfl, HE.out⟩
set_option maxRecDepth 100000 in
theorem anyResv_any {a : Option Addr} {n c : Nat} {y : List Int} {w : World} (h : Nums .i64 w a n y) :
    Calls Try.prog 66 #[.slice a n c, .func (.func 24) #[] #[]] w fun e w' => e = .returned (.bool (y.any resv)) ∧ w = w' := by
  have HI := Lib.hid (indexResv_any (c := c) h)
  clear h
  go_enter Try.func66, Try.ntmps66
  go_wp2_with fail
  refine HI.out.mono ?_
  rintro e w1 ⟨r, rfl, rfl, hr⟩
  have HR := Lib.hid hr
  clear hr
  go_wp2_with fail
  go_ret
  exact ⟨by rw [← HR.out]; rfl, rfl⟩
set_option maxRecDepth 100000 in
theorem isHardened_any {a : Option Addr} {n c : Nat} {y : List Int} {w : World} (h : Nums .i64 w a n y) :
    Calls Try.prog 29 #[.slice a n c] w (Told (.bool (y.any resv)) w) := by
  have HI := Lib.hid (anyResv_any (c := c) h)
  clear h
  go_enter Try.func29, Try.ntmps29
  go_wp2_with fail
  refine HI.out.mono ?_
  rintro e w1 ⟨rfl, rfl⟩
  go_wp2_with fail
  go_ret
  exact ⟨rfl, Below.refl _ _⟩
set_option maxRecDepth 100000 in
theorem hasGrease_any {a : Option Addr} {n c : Nat} {l : List Vl} {w : World} (h : Vals w a n l) (hn : n ≤ 1048576000) :
    Calls Try.prog 28 #[.slice a n c] w (Told (.bool (hasG l)) w) := by
  have HT := Lib.hid (tagsOf_any (c := c) h hn)
  unfold Made at HT
  clear h
  go_enter Try.func28, Try.ntmps28
  go_wp2_with fail
  refine HT.out.mono ?_
  rintro e w1 ⟨q, m, d, rfl, ho, hb⟩
  have HB := Lib.hid hb
  have HI := Lib.hid (anyResv_any (c := d) ho.nums)
  clear ho hb HT
  go_wp2_with fail
  refine HI.out.mono ?_
  rintro e w2 ⟨rfl, rfl⟩
  go_wp2_with fail
  go_ret
  exact ⟨rfl, HB.out⟩
set_option maxRecDepth 100000 in
theorem stripAsk_told (k : Int) (W : World) : Calls Try.prog 65 #[.int .i64 k] W (Told (.bool (!resv k)) W) := by
  have HR := isReserved_any k
  generalize resv k = b at HR ⊢
  go_enter Try.func65, Try.ntmps65
  go_wp2_with (go_at_call 24; refine (HR _).mono ?_; rintro e w' ⟨rfl, rfl⟩)
  go_ret
  exact ⟨rfl, Below.refl _ _⟩
set_option maxRecDepth 100000 in
theorem stripGrease_any {a : Option Addr} {n c : Nat} {l : List Vl} {w : World} (h : Vals w a n l) (hz : ∀ z ∈ tagsX l, (Lit.int .i64 z).wf = true) (hn : n ≤ 1048576) (hit : itemsOf l ≤ 1048576) :
    Calls Try.prog 25 #[.slice a n c] w (MadeV 57 3 w.heap.size (strX l) w) := by
  have HW := Lib.hid (extsWhereS_any (c := c) (fun t => !resv t) h hz (fun k W _ _ => stripAsk_told k W) hn hit)
  clear h
  go_enter Try.func25, Try.ntmps25
  go_wp2_with fail
  refine HW.out.mono ?_
  rintro e w1 ⟨q, m, d, rfl, ho, hb⟩
  have HO := Lib.hid ho
  have HB := Lib.hid hb
  clear ho hb HW
  go_wp2_with fail
  go_ret
  exact ⟨_, _, _, rfl, HO.out, HB.out⟩
end Go.Proofs.Ytgkacnngodamgaa
namespace Go.Proofs.Ytgkacnngodamgaa
open Go.ChangeShapes Go.WideShapes Go.ChangeAt Go.RowKit
set_option linter.unusedVariables false

theorem told_resv (t : Int) (w : World) : Calls Try.prog 24 #[.int .i64 t] w (Told (.bool (resv t)) w) :=
  (isReserved_any t w).mono fun e w' ⟨h1, h2⟩ => ⟨h1, by rw [h2]; exact Below.refl _ _⟩
theorem str_mem {l : List Vl} {t : Int} (h : t ∈ tagsX (strX l)) : t ∈ tagsX l := by
  rw [strX_tags] at h
  exact (List.mem_filter.1 h).1
theorem five_wf : ∀ z ∈ ([1, 2, 3, 40, 200] : List Int), (Lit.int .i64 z).wf = true := by
  intro z hz
  simp only [List.mem_cons, List.not_mem_nil, or_false] at hz
  rcases hz with rfl | rfl | rfl | rfl | rfl <;> rfl
end Go.Proofs.Ytgkacnngodamgaa
namespace Go.Proofs.Ytgkacnngodamgaa
open Go.ChangeShapes Go.WideShapes Go.ChangeAt Go.RowKit
set_option linter.unusedVariables false

/-- Only blocks from lo on and below hi have changed, or are new. -/
structure Inside (lo hi : Nat) (w w' : World) : Prop where
  os : w'.os = w.os
  tape : w'.tape = w.tape
  output : w'.output = w.output
  size : w.heap.size ≤ w'.heap.size
  block : ∀ k, k < w.heap.size → k < lo ∨ hi ≤ k → w'.heap[k]? = w.heap[k]?
theorem Inside.refl (lo hi : Nat) (w : World) : Inside lo hi w w := ⟨rfl, rfl, rfl, Nat.le_refl _, fun _ _ _ => rfl⟩
theorem Inside.trans {lo hi : Nat} {a b c : World} (h : Inside lo hi a b) (k : Inside lo hi b c) : Inside lo hi a c :=
  ⟨k.os.trans h.os, k.tape.trans h.tape, k.output.trans h.output, Nat.le_trans h.size k.size, fun i hi hr => (k.block i (Nat.lt_of_lt_of_le hi h.size) hr).trans (h.block i hi hr)⟩
theorem Inside.row {lo hi : Nat} {w w' : World} {row : Option Nat} (h : w.grownBy w' row) (hr : ∀ r, row = some r → lo ≤ r ∧ r < hi) : Inside lo hi w w' :=
  ⟨h.os, h.tape, h.output, h.size, fun k hk hd => h.block k hk fun e => by have := hr k e.symm; omega⟩
theorem Inside.to {lo hi B0 : Nat} {w0 w w' : World} (h : Inside lo hi w w') (hb : Below B0 w0 w) (h0 : B0 ≤ lo) (h1 : B0 ≤ w.heap.size) : Below B0 w0 w' :=
  hb.trans ⟨h.os, h.tape, h.output, h.size, fun k hk => h.block k (by omega) (Or.inl (by omega))⟩
section
variable {tO tI : TypeId} {w w' : World} {B S n c lo hi : Nat} {a : Option Addr} {l : List Vl} {hs : List Vh}
/-- The one block of a row, as it was. -/
theorem Inside.one (h : Inside lo hi w w') (ad : Addr) (hd : ad.block < lo ∨ hi ≤ ad.block) (hs : ad.block < w.heap.size) : ∃ w2 : World, w.grownBy w2 none ∧ w2.heap[ad.block]? = w'.heap[ad.block]? := ⟨w, grown_below (Below.refl _ _) _, (h.block _ hs hd).symm⟩
theorem row_aside {t : TypeId} {s : Nat} {v : Value} {xs : List Value} (h : w.ownsRow B t s v n xs) (hg : Inside lo hi w w') (hd : ∀ r, v.ownBlock = some r → r < lo ∨ hi ≤ r) : w'.ownsRow B t s v n xs := by
  refine ⟨h.1, ?_⟩
  rcases h.2 with hn | ⟨g, cap, cur, rfl, hb, hgg, rest⟩
  · exact .inl hn
  · refine .inr ⟨g, cap, cur, rfl, hb, ?_, rest⟩
    rw [hg.block g (Array.getElem?_eq_some_iff.1 hgg).1 (hd g rfl)]
    exact hgg
theorem block_of {p : Option Addr} {m d r : Nat} (h : Value.ownBlock (.slice p m d) = some r) : ∃ ad, p = some ad ∧ ad.block = r := by
  cases p with
  | none => simp [Value.ownBlock] at h
  | some ad => simp only [Value.ownBlock, Option.some.injEq] at h; exact ⟨ad, rfl, h⟩
theorem Own.aside {k : IntKind} {t : TypeId} {m d lo' hi' : Nat} {p : Option Addr} {y : List Int} (h : Own k t w B p m d y) (hg : Inside lo hi w w') (s : Span p lo' hi') (hd : hi ≤ lo' ∨ hi' ≤ lo) : Own k t w' B p m d y :=
  ⟨h.1, row_aside h.2 hg fun r e => by
    obtain ⟨ad, e1, rfl⟩ := block_of e
    have := s ad e1
    omega⟩
theorem OwnI.aside {α : Type} {enc : α → List Value} {s : Nat} {t : TypeId} {m d lo' hi' : Nat} {p : Option Addr} {y : List α} (h : OwnI enc s t w B p m d y) (hg : Inside lo hi w w') (sp : Span p lo' hi') (hd : hi ≤ lo' ∨ hi' ≤ lo) : OwnI enc s t w' B p m d y :=
  ⟨h.1, row_aside h.2 hg fun r e => by
    obtain ⟨ad, e1, rfl⟩ := block_of e
    have := sp ad e1
    omega⟩
theorem OwnVB.aside (h : OwnVB S tO tI w B a n c l) (hg : Inside lo hi w w') (hd : hi ≤ B ∨ S ≤ lo) : OwnVB S tO tI w' B a n c l := by
  obtain ⟨hs, h1, h2, h3⟩ := h
  refine ⟨hs, h1.aside hg (lo' := B) (hi' := S) (fun ad e => ⟨(h1.span ad e).1, h3.1 ad e⟩) hd, ⟨h2.1, fun j g x hk hx => ?_, h2.2.2⟩, h3⟩
  obtain ⟨e, ho, hd1⟩ := h2.2.1 j g x hk hx
  exact ⟨e, ho.aside hg (lo' := B) (hi' := S) (fun ad e => ⟨(ho.span ad e).1, h3.2 j g ad hk e⟩) hd, hd1⟩
/-- Marks on another slice. -/
theorem OwnVB.apart {b : Option Addr} {m d lo' hi' : Nat} (h : OwnVB S tO tI w B a n c l) (hg : w.grownBy w' (Value.ownBlock (.slice b m d))) (s' : Span b lo' hi') (hd : hi' ≤ B ∨ S ≤ lo') : OwnVB S tO tI w' B a n c l :=
  h.far hg fun r e => by
    obtain ⟨ad, e1, rfl⟩ := block_of e
    have := s' ad e1
    omega
theorem OwnVB.len (h : OwnVB S tO tI w B a n c l) : l.length = n := h.ownV.len
theorem OwnVB.room (h : OwnVB S tO tI w B a n c l) : n ≤ c ∧ (c : Int) ≤ 9223372036854775807 := h.ownV.room
theorem OwnVB.vals (h : OwnVB S tO tI w B a n c l) : Vals w a n l := h.ownV.vals
/-- The number of a value is stored. -/
theorem OwnVB.putNum {g : Nat} (h : OwnVB S tO tI w B (some ⟨g, 0, none⟩) n c l) {i : Nat} {x : Vl} (hx : l[i]? = some x) (k : Int) :
    OwnVB S tO tI (w.setCell ⟨g, i * 2, none⟩ (.int .i64 k)) B (some ⟨g, 0, none⟩) n c (l.set i ⟨k, x.items⟩) ∧ Inside B S w (w.setCell ⟨g, i * 2, none⟩ (.int .i64 k)) := by
  obtain ⟨hs, h1, h2, hL⟩ := h
  have hih : i < hs.length := by rw [h2.1]; exact lt_of_some hx
  have hg := List.getElem?_eq_getElem hih
  have h3 := h1.2.stored (i * 2) (.int .i64 k)
  rw [flatVh_num hs i _ k hg] at h3
  obtain ⟨e1, ho, hd⟩ := h2.2.1 i _ x hg hx
  refine ⟨⟨_, ⟨by rw [List.length_set]; exact h1.len, h3.1⟩, h2.set hih ⟨k, (hs[i]).p, (hs[i]).m, (hs[i]).c⟩ x.items (Own.beside (b := some ⟨g, 0, none⟩) (n := n) (c := c) ho h3.2 hd) (fun j v y hj hv hy => ?_) hd (fun j v ad bd hj hv ha hb => h2.other hj hv hg ad bd ha hb), hL.1, fun j v ad hv e => ?_⟩, Inside.row h3.2 fun r e => ?_⟩
  · obtain ⟨_, ho2, hd2⟩ := h2.2.1 j v y hv hy
    exact Own.beside (b := some ⟨g, 0, none⟩) (n := n) (c := c) ho2 h3.2 hd2
  · by_cases q : j = i
    · subst q
      rw [List.getElem?_set_self hih] at hv
      cases hv
      exact hL.2 j _ ad hg e
    · rw [List.getElem?_set_ne (by omega)] at hv
      exact hL.2 j v ad hv e
  · cases e
    exact ⟨(h1.span _ rfl).1, hL.1 _ rfl⟩
/-- The integers of a value are overwritten in place. -/
theorem OwnVB.over (h1 : OwnI Vh.enc 2 tO w B a n c hs) (h2 : RowsV tI w B a hs l) (hL : Lim S a hs) {i : Nat} {x : Vl} {v : Vh} (hx : l[i]? = some x) (hv : hs[i]? = some v) {y : List Int} (hg : w.grownBy w' (Value.ownBlock (.slice v.p v.m v.c))) (ho : Own .i64 tI w' B v.p v.m v.c y) :
    OwnVB S tO tI w' B a n c (l.set i ⟨x.num, y⟩) ∧ Inside B S w w' := by
  have hih : i < hs.length := by rw [h2.1]; exact lt_of_some hx
  obtain ⟨e1, hov, hdv⟩ := h2.2.1 i v x hv hx
  have e2 : (⟨x.num, y⟩ : Vl) = ⟨v.num, y⟩ := by rw [e1]
  have e3 : hs = hs.set i v := by
    apply List.ext_getElem?
    intro j
    by_cases q : j = i
    · subst q
      rw [List.getElem?_set_self hih, hv]
    · rw [List.getElem?_set_ne (by omega)]
  rw [e2]
  refine ⟨⟨hs, h1.far hg fun ad e q => ?_, ?_, hL⟩, Inside.row hg fun r e => ?_⟩
  · obtain ⟨bd, hb, hbb⟩ := block_of q
    exact hdv bd ad hb e hbb
  · rw [e3]
    refine h2.set hih v y ho (fun j g z hj hq hz => ?_) hdv (fun j g ad bd hj hq ha hb => h2.other hj hq hv ad bd ha hb)
    obtain ⟨_, ho2, hd2⟩ := h2.2.1 j g z hq hz
    refine ho2.far hg fun ad e q => ?_
    obtain ⟨bd, hb, hbb⟩ := block_of q
    exact h2.other hj hq hv bd ad hb e hbb
  · obtain ⟨bd, hb, rfl⟩ := block_of e
    exact ⟨(hov.span bd hb).1, hL.2 i v bd hv hb⟩
end
/-- The marks that are laid: each one more than the one before. -/
def marksV (j : Nat) : List Vl → List Vl
  | [] => []
  | x :: t => ⟨((j : Nat) : Int), marksIntS (j + 1) x.items.length⟩ :: marksV (j + 1 + x.items.length) t
theorem marksV_len : ∀ (l : List Vl) (j : Nat), (marksV j l).length = l.length
  | [], _ => rfl
  | x :: t, j => by rw [marksV, List.length_cons, List.length_cons, marksV_len t]
theorem marksV_app : ∀ (l m : List Vl) (j : Nat), marksV j (l ++ m) = marksV j l ++ marksV (j + l.length + itemsOf l) m
  | [], m, j => by simp [marksV, itemsOf]
  | x :: t, m, j => by
    rw [List.cons_append, marksV, marksV_app t m, marksV, List.cons_append]
    congr 3
    simp only [itemsOf, List.length_cons, List.map_cons, List.sum_cons]
    omega
theorem marksV_take {l : List Vl} {j : Nat} {x : Vl} (k : Nat) (h : l[j]? = some x) : marksV k (l.take (j + 1)) = marksV k (l.take j) ++ [⟨((k + j + itemsOf (l.take j) : Nat) : Int), marksIntS (k + j + itemsOf (l.take j) + 1) x.items.length⟩] := by
  have hj := lt_of_some h
  rw [List.take_add_one, h, Option.toList_some, marksV_app, List.length_take, Nat.min_eq_left (by omega)]
  rfl
theorem marksV_at : ∀ {l : List Vl} {j : Nat} {x : Vl} (k : Nat), l[j]? = some x → (marksV k l)[j]? = some ⟨((k + j + itemsOf (l.take j) : Nat) : Int), marksIntS (k + j + itemsOf (l.take j) + 1) x.items.length⟩
  | [], j, x, k, h => by simp at h
  | y :: t, 0, x, k, h => by
    have : y = x := by simpa using h
    subst this
    simp [marksV, itemsOf]
  | y :: t, j + 1, x, k, h => by
    rw [marksV, List.getElem?_cons_succ, marksV_at _ (by simpa using h), List.take_succ_cons]
    have e : itemsOf (y :: t.take j) = y.items.length + itemsOf (t.take j) := by simp [itemsOf]
    rw [e]
    congr 2
    · omega
    · congr 1
      omega
theorem marksV_items : ∀ (l : List Vl) (j : Nat), itemsOf (marksV j l) = itemsOf l
  | [], _ => rfl
  | x :: t, j => by
    have := marksV_items t (j + 1 + x.items.length)
    unfold itemsOf at *
    rw [marksV, List.map_cons, List.map_cons, List.sum_cons, List.sum_cons, this, marksIntS_len]
theorem set_mid {α : Type} (A : List α) (p : Nat) (h : A.length = p) (x y : α) (R : List α) : (A ++ x :: R).set p y = A ++ y :: R := by
  subst h
  rw [List.set_append_right _ _ (Nat.le_refl _), Nat.sub_self, List.set_cons_zero]
theorem get_mid {α : Type} (A : List α) (p : Nat) (h : A.length = p) (x : α) (R : List α) : (A ++ x :: R)[p]? = some x := by
  subst h
  rw [List.getElem?_append_right (Nat.le_refl _), Nat.sub_self]
  rfl
theorem drop_at {l : List Vl} {j : Nat} {x : Vl} (h : l[j]? = some x) : l.drop j = x :: l.drop (j + 1) := by
  have hj := lt_of_some h
  rw [List.drop_eq_getElem_cons hj]
  rw [List.getElem?_eq_getElem hj] at h
  cases h
  rfl

end Go.Proofs.Ytgkacnngodamgaa
namespace Go.Proofs.Ytgkacnngodamgaa
open Go.ChangeShapes Go.WideShapes Go.ChangeAt Go.RowKit
set_option linter.unusedVariables false

set_option maxHeartbeats 2000000 in
set_option maxRecDepth 100000 in
theorem markExtS_any (S B : Nat) (a : Option Addr) (n c j0 : Nat) (l : List Vl) (w : World) (h : OwnVB S 57 3 w B a n c l) (h0 : j0 ≤ 100000000000) (hn : n ≤ 1000000000) (hit : itemsOf l ≤ 1000000000) :
    Calls Try.prog 36 #[.slice a n c, .int .i64 j0] w fun e w' => e = .returned (.int .i64 ((j0 + n + itemsOf l : Nat) : Int)) ∧ OwnVB S 57 3 w' B a n c (marksV j0 l) ∧ Inside B S w w' := by
  have H := Lib.hid h
  have hln := Lib.hid h.len
  clear h
  go_enter Try.func36, Try.ntmps36
  go_wp2_with fail
  go_loopw [1, 5] (fun q i wr => ∃ j : Nat, j ≤ n ∧ i = .int .i64 j ∧ q = .int .i64 ((j0 + j + itemsOf (l.take j) : Nat) : Int) ∧ OwnVB S 57 3 wr B a n c (marksV j0 (l.take j) ++ l.drop j) ∧ Inside B S w wr) (fun _ i _ => n - (intOf i).toNat)
  case atStart => exact ⟨0, Nat.zero_le _, rfl, by simp [itemsOf], by simpa [marksV] using H.out, Inside.refl _ _ _⟩
  case round =>
    obtain ⟨j, hj, rfl, rfl, hown, hg⟩ := hrel
    by_cases hlt : j < n
    · obtain ⟨x, hx⟩ : ∃ x, l[j]? = some x := ⟨_, List.getElem?_eq_getElem (by rw [hln.out]; exact hlt)⟩
      have hst := itemsOf_at hx
      have hle := itemsOf_le l (j + 1)
      have hpre : (marksV j0 (l.take j)).length = j := by rw [marksV_len, List.length_take, hln.out]; omega
      rw [drop_at hx] at hown
      have hmid := get_mid _ j hpre x (l.drop (j + 1))
      obtain ⟨q, hq⟩ : ∃ q : Nat, q = j0 + j + itemsOf (l.take j) := ⟨_, rfl⟩
      have hqb : q ≤ 200000000000 := by omega
      have hnext : j0 + (j + 1) + itemsOf (l.take (j + 1)) = q + 1 + x.items.length := by omega
      have hxl : x.items.length ≤ 1000000000 := by omega
      rw [← hq]
      obtain ⟨hs, h1, h2, hL⟩ := hown
      obtain ⟨g, e, _, _⟩ := h1.head (by omega)
      subst e
      have hp := OwnVB.putNum ⟨hs, h1, h2, hL⟩ hmid (q : Int)
      rw [set_mid _ j hpre] at hp
      have hf0 := h1.2.frozenAt (j * 2)
      obtain ⟨u0, hu0⟩ := row_cell h1.2 (k := j * 2) (by omega)
      obtain ⟨hs2, k1, k2, kL⟩ := hp.1
      have hjv : j < hs2.length := by rw [k2.1]; simp; omega
      have hmid2 := get_mid _ j hpre (⟨(q : Int), x.items⟩ : Vl) (l.drop (j + 1))
      have hv := List.getElem?_eq_getElem hjv
      obtain ⟨v, hvv⟩ : ∃ v, v = hs2[j] := ⟨_, rfl⟩
      rw [← hvv] at hv
      obtain ⟨vn, vp, vm, vc⟩ := v
      obtain ⟨e1, ho, _⟩ := k2.2.1 j _ _ hv hmid2
      dsimp only at ho
      have hc1 := (k1.items Vh.enc_len).at_ (j := j) (by omega)
      obtain ⟨b', o', g', eb, hg', hcell⟩ := hc1
      cases eb
      rw [hv] at hg'
      cases hg'
      have hhdr := hcell 1 _ rfl
      dsimp only at hhdr
      have hvm : vm = x.items.length := by rw [← ho.len]
      subst hvm
      have HMK := Lib.hid (markIntS_any B vp x.items.length vc (q + 1) x.items _ ho (by omega) (by omega))
      have HIN := Lib.hid (hg.trans hp.2)
      have HOV := Lib.hid (fun (w' : World) (y : List Int) => OwnVB.over (w' := w') (y := y) k1 k2 kL hmid2 hv)
      have HX := Lib.hid hx
      have HPRE := Lib.hid hpre
      have HQ := Lib.hid hq
      have HN := Lib.hid hnext
      clear hx hpre hmid hmid2 h1 h2 hL hp k1 k2 kL hv hvv e1 ho hcell hg hq hst hnext
      simp only [Nat.zero_add] at hhdr
      go_wp2_with fail
      refine HMK.out.mono ?_
      rintro e w2 ⟨rfl, ho2, hg2⟩
      obtain ⟨k3, hi3⟩ := HOV.out _ _ hg2 ho2
      rw [set_mid _ j HPRE.out] at k3
      have HOW := Lib.hid k3
      have HIN2 := Lib.hid (HIN.out.trans hi3)
      clear k3 hi3 ho2 hg2 HOV HMK
      go_wp2_with fail
      go_roundw
      case rel =>
        refine ⟨j + 1, by omega, by go_num, ?_, ?_, HIN2.out⟩
        · rw [HN.out]
          congr 1
        · rw [marksV_take j0 HX.out, List.append_assoc, ← HQ.out]
          exact HOW.out
      case measure => simp [intOf]; omega
    · obtain rfl : j = n := by omega
      have hall : l.take j = l := List.take_of_length_le (by rw [hln.out]; omega)
      have hnone : l.drop j = [] := List.drop_eq_nil_of_le (by rw [hln.out]; omega)
      rw [hall, hnone, List.append_nil] at hown
      rw [hall]
      have HW := Lib.hid hown
      have HG := Lib.hid hg
      clear hown hg hall hnone
      go_wp2_with fail
      go_ret
      exact ⟨rfl, HW.out, HG.out⟩
set_option maxHeartbeats 2000000 in
set_option maxRecDepth 100000 in
theorem heldExtS_any (a : Option Addr) (n c j0 : Nat) (l : List Vl) (w : World) (h : Vals w a n (marksV j0 l)) (h0 : j0 ≤ 100000000000) (hn : n ≤ 1000000000) (hit : itemsOf l ≤ 1000000000) :
    Calls Try.prog 38 #[.slice a n c, .int .i64 j0] w (Told (.int .i64 ((j0 + n + itemsOf l : Nat) : Int)) w) := by
  have H := Lib.hid h
  have hln : Hid (l.length = n) := Lib.hid (by rw [← h.len, marksV_len])
  clear h
  go_enter Try.func38, Try.ntmps38
  go_wp2_with fail
  go_loopw [1, 5] (fun q i wr => ∃ j : Nat, j ≤ n ∧ i = .int .i64 j ∧ q = .int .i64 ((j0 + j + itemsOf (l.take j) : Nat) : Int) ∧ Below w.heap.size w wr) (fun _ i _ => n - (intOf i).toNat)
  case atStart => exact ⟨0, Nat.zero_le _, rfl, by simp [itemsOf], Below.refl _ _⟩
  case round =>
    obtain ⟨j, hj, rfl, rfl, hb⟩ := hrel
    have HB := Lib.hid hb
    clear hb
    by_cases hlt : j < n
    · obtain ⟨x, hx⟩ : ∃ x, l[j]? = some x := ⟨_, List.getElem?_eq_getElem (by rw [hln.out]; exact hlt)⟩
      have hst := itemsOf_at hx
      have hle := itemsOf_le l (j + 1)
      have hmk := marksV_at j0 hx
      obtain ⟨q, hq⟩ : ∃ q : Nat, q = j0 + j + itemsOf (l.take j) := ⟨_, rfl⟩
      have hnext : j0 + (j + 1) + itemsOf (l.take (j + 1)) = q + 1 + x.items.length := by omega
      have hqb : q ≤ 200000000000 := by omega
      have hxl : x.items.length ≤ 1000000000 := by omega
      rw [← hq] at hmk ⊢
      obtain ⟨b, o, p, m, d, k, y, rfl, hy, hc0, hc1, hN, hr⟩ := (H.out.same HB.out).at_ hlt
      rw [hmk] at hy
      cases hy
      have hmx : m = x.items.length := by rw [← hN.len, marksIntS_len]
      subst hmx
      have HH := Lib.hid (heldIntS_any p x.items.length d (q + 1) wr hN (by omega) (by omega))
      have HNX := Lib.hid hnext
      clear hx hst hmk hq hN hnext
      go_wp2_with fail
      refine HH.out.mono ?_
      rintro e w2 ⟨rfl, hb2⟩
      have HB2 := Lib.hid (HB.out.trans (hb2.mono HB.out.size))
      clear hb2 hc0 hc1 HH
      go_wp2_with fail
      go_roundw
      case rel => exact ⟨j + 1, by omega, by go_num, by rw [HNX.out]; congr 1, HB2.out⟩
      case measure => simp [intOf]; omega
    · obtain rfl : j = n := by omega
      have hall : l.take j = l := List.take_of_length_le (by rw [hln.out]; omega)
      rw [hall]
      clear hall
      go_wp2_with fail
      go_ret
      exact ⟨rfl, HB.out⟩
end Go.Proofs.Ytgkacnngodamgaa
