/- Lists of lists of integers by the laws' own helpers: counted, copied, compared, and read among the arguments. -/
import Derived.Test.YtiaknjeeonlbcaaLl
import Derived.Test.YtiaknjeeonlbcaaIntT
import Derived.Test.YtiaknjeeonlbcaaOpen
import Derived.StillTailTactics
import Derived.Handy
import Derived.Lib.SmallJoins
namespace Go.Proofs.Ytiaknjeeonlbcaa
open Go.ChangeShapes Go.WideShapes Go.ChangeAt Go.RowKit
set_option linter.unusedVariables false
set_option linter.unusedSimpArgs false

theorem infoRowS : (Try.prog.info? 29).map (fun i => (i.zero, i.size, i.bytes)) = some (some (.slice none 0 0), 1, 24) := by kernel_rfl
set_option maxRecDepth 100000 in
theorem szRow_yes (a : Option Addr) (n c : Nat) (left : Int) (w : World) (h : (n : Int) ≤ left) (hl : left ≤ 1048576) :
    Calls Try.prog 36 #[.slice a n c, .int .i64 left] w fun e w' => e = .returned (.int .i64 (left - n)) ∧ w = w' := by
  go_enter Try.func36, Try.ntmps36
  go_wp2
  go_ret
  exact ⟨rfl, rfl⟩
set_option maxRecDepth 100000 in
theorem szRow_no (a : Option Addr) (n c : Nat) (left : Int) (w : World) (hn : (n : Int) ≤ 9223372036854775807) (h : left < (n : Int)) (h0 : 0 ≤ left) (hl : left ≤ 1048576) :
    Calls Try.prog 36 #[.slice a n c, .int .i64 left] w fun e w' => e = .returned (.int .i64 (-1)) ∧ w = w' := by
  go_enter Try.func36, Try.ntmps36
  go_wp2
  go_ret
  exact ⟨rfl, rfl⟩
set_option maxRecDepth 100000 in
set_option maxHeartbeats 2000000 in
theorem szIntSS_yes {a : Option Addr} {n c : Nat} {l : List (List Int)} {w : World} (left : Int) (h : Rws w a n l) (hle : ((n + numsOf l : Nat) : Int) ≤ left) (hl : left ≤ 1048576) :
    Calls Try.prog 17 #[.slice a n c, .int .i64 left] w (Told (.int .i64 (left - (n + numsOf l : Nat))) w) := by
  have HS := Lib.hid h
  have hln := h.len
  clear h
  go_enter Try.func17, Try.ntmps17
  go_wp2_with fail
  go_loopw [1, 5] (fun s1 i wr => ∃ j : Nat, j ≤ n ∧ i = .int .i64 j ∧ s1 = .int .i64 (left - (n + numsOf (l.take j) : Nat)) ∧ Below w.heap.size w wr) (fun _ i _ => n - (intOf i).toNat)
  case atStart => exact ⟨0, Nat.zero_le _, rfl, by simp [numsOf], Below.refl _ _⟩
  case round =>
    obtain ⟨j, hj, rfl, rfl, hb⟩ := hrel
    have HB := Lib.hid hb
    clear hb
    by_cases hlt : j < n
    · obtain ⟨ad, p, m, d, y, rfl, hy, hc0, hN, hr⟩ := (HS.out.same HB.out).at_ hlt
      have hpa := numsOf_at hy
      have hpl := numsOf_le l (j + 1)
      have hym := hN.len
      have HZ := Lib.hid (fun w' => szRow_yes p m d (left - (n + numsOf (l.take j) : Nat)) w' (by omega) (by omega))
      clear hy hN
      go_wp2_with fail
      refine (HZ.out _).mono ?_
      rintro e w2 ⟨rfl, rfl⟩
      clear hc0
      go_wp2_with fail
      go_roundw
      case rel => exact ⟨j + 1, by omega, by go_num, by congr 1; omega, HB.out⟩
      case measure => simp [intOf]; omega
    · obtain rfl : j = n := by omega
      have hfull : l.take j = l := List.take_of_length_le (by omega)
      rw [hfull]
      go_wp2_with fail
      go_ret
      exact ⟨rfl, HB.out⟩
set_option maxRecDepth 100000 in
set_option maxHeartbeats 2000000 in
theorem szIntSS_no {a : Option Addr} {n c : Nat} {l : List (List Int)} {w : World} (left : Int) (h : Rws w a n l) (hlt0 : left < ((n + numsOf l : Nat) : Int)) (h0 : 0 ≤ left) (hl : left ≤ 1048576) :
    Calls Try.prog 17 #[.slice a n c, .int .i64 left] w (Told (.int .i64 (-1)) w) := by
  have HS := Lib.hid h
  have hln := h.len
  have hfit := h.fits
  clear h
  by_cases hbig : left < (n : Int)
  · go_enter Try.func17, Try.ntmps17
    go_wp2_with fail
    go_ret
    exact ⟨rfl, Below.refl _ _⟩
  · go_enter Try.func17, Try.ntmps17
    go_wp2_with fail
    go_loopw [1, 5] (fun s1 i wr => ∃ j : Nat, j ≤ n ∧ i = .int .i64 j ∧ s1 = .int .i64 (left - (n + numsOf (l.take j) : Nat)) ∧ ((n + numsOf (l.take j) : Nat) : Int) ≤ left ∧ Below w.heap.size w wr) (fun _ i _ => n - (intOf i).toNat)
    case atStart => exact ⟨0, Nat.zero_le _, rfl, by simp [numsOf], by simp [numsOf]; omega, Below.refl _ _⟩
    case round =>
      obtain ⟨j, hj, rfl, rfl, hle, hb⟩ := hrel
      have HB := Lib.hid hb
      clear hb
      by_cases hlt : j < n
      · obtain ⟨ad, p, m, d, y, rfl, hy, hc0, hN, hr⟩ := (HS.out.same HB.out).at_ hlt
        have hpa := numsOf_at hy
        have hym := hN.len
        by_cases hok : ((n + numsOf (l.take (j + 1)) : Nat) : Int) ≤ left
        · have HZ := Lib.hid (fun w' => szRow_yes p m d (left - (n + numsOf (l.take j) : Nat)) w' (by omega) (by omega))
          clear hy hN
          go_wp2_with fail
          refine (HZ.out _).mono ?_
          rintro e w2 ⟨rfl, rfl⟩
          clear hc0
          go_wp2_with fail
          go_roundw
          case rel => exact ⟨j + 1, by omega, by go_num, by congr 1; omega, hok, HB.out⟩
          case measure => simp [intOf]; omega
        · have hmf := hN.fits
          have HZ := Lib.hid (fun w' => szRow_no p m d (left - (n + numsOf (l.take j) : Nat)) w' hmf (by omega) (by omega) (by omega))
          clear hy hN
          go_wp2_with fail
          refine (HZ.out _).mono ?_
          rintro e w2 ⟨rfl, rfl⟩
          clear hc0
          go_wp2_with fail
          go_ret
          exact ⟨rfl, HB.out⟩
      · obtain rfl : j = n := by omega
        have hfull : l.take j = l := List.take_of_length_le (by omega)
        rw [hfull] at hle
        omega

section
variable {w w' : World} {B S n c : Nat} {a : Option Addr} {l : List (List Int)} {hs : List Rh}
theorem RowsL.nil : RowsL S w B a [] [] := ⟨rfl, fun j h x e => by simp at e, fun i j h k _ e => by simp at e⟩
theorem RowsL.far {row : Option Nat} (h : RowsL S w B a hs l) (hg : w.grownBy w' row) (hr : ∀ r, row = some r → r < B ∨ S ≤ r ∨ ∃ bd, a = some bd ∧ bd.block = r) : RowsL S w' B a hs l :=
  ⟨h.1, fun j k x h1 h2 => by
    obtain ⟨ho, hd⟩ := h.2.1 j k x h1 h2
    refine ⟨ho.farL hg fun ad e e2 => ?_, hd⟩
    have := (ho.span ad e).1
    have := (hd ad e).1
    rcases hr _ e2 with q | q | ⟨bd, q, q2⟩
    · omega
    · omega
    · exact (hd ad e).2 bd q q2.symm, h.2.2⟩
theorem RowsL.push {p : Option Addr} {m d : Nat} {y : List Int} (h : RowsL S w B a hs l) (hS : S ≤ w.heap.size) (ho : Own .i64 3 w B p m d y) (hn : ∀ ad, p = some ad → S ≤ ad.block ∧ ∀ bd, a = some bd → ad.block ≠ bd.block) : RowsL w.heap.size w B a (hs ++ [⟨p, m, d⟩]) (l ++ [y]) := by
  refine ⟨by rw [List.length_append, List.length_append, h.1]; rfl, fun j k x h1 h2 => ?_, fun j j' k k' hjj hk hk' ad bd ha hb => ?_⟩
  · rcases Nat.lt_or_ge j hs.length with q | q
    · rw [List.getElem?_append_left q] at h1
      rw [List.getElem?_append_left (by rw [← h.1]; exact q)] at h2
      obtain ⟨ho1, hd1⟩ := h.2.1 j k x h1 h2
      exact ⟨ho1, fun ad e => ⟨by have := (hd1 ad e).1; omega, (hd1 ad e).2⟩⟩
    · obtain rfl : j = hs.length := by have := lt_ofL h1; rw [List.length_append] at this; simp at this; omega
      rw [List.getElem?_append_right (Nat.le_refl _), Nat.sub_self] at h1
      rw [List.getElem?_append_right (by rw [h.1]; exact Nat.le_refl _), h.1, Nat.sub_self] at h2
      cases h1
      cases h2
      exact ⟨ho, fun ad e => ⟨(ho.span ad e).2, (hn ad e).2⟩⟩
  · have hjl : j < hs.length := by have := lt_ofL hk'; rw [List.length_append] at this; simp at this; omega
    rw [List.getElem?_append_left hjl] at hk
    rcases Nat.lt_or_ge j' hs.length with q | q
    · rw [List.getElem?_append_left q] at hk'
      exact h.2.2 j j' k k' hjj hk hk' ad bd ha hb
    · obtain rfl : j' = hs.length := by have := lt_ofL hk'; rw [List.length_append] at this; simp at this; omega
      rw [List.getElem?_append_right (Nat.le_refl _), Nat.sub_self] at hk'
      cases hk'
      have := ((h.2.1 j k _ hk (List.getElem?_eq_getElem (by rw [← h.1]; exact hjl))).2 ad ha).1
      have := (hn bd hb).1
      omega
end
/-- The first headers are there, the others are nil. -/
def fillRh (hs : List Rh) (n : Nat) : List Value := flatOf Rh.enc (hs ++ List.replicate (n - hs.length) ⟨none, 0, 0⟩)
theorem fillRh_all {hs : List Rh} {n : Nat} (h : hs.length = n) : fillRh hs n = flatOf Rh.enc hs := by
  unfold fillRh
  rw [h, Nat.sub_self]
  simp
theorem flatRh_nils : ∀ n : Nat, flatOf Rh.enc (List.replicate n ⟨none, 0, 0⟩) = List.replicate n (Value.slice none 0 0)
  | 0 => rfl
  | n + 1 => by
    have ih := flatRh_nils n
    unfold flatOf at ih ⊢
    rw [List.replicate_succ, List.flatMap_cons, ih, List.replicate_succ]
    rfl
theorem fillRh_nil (n : Nat) : fillRh [] n = List.replicate n (Value.slice none 0 0) := by
  unfold fillRh
  rw [List.nil_append, List.length_nil, Nat.sub_zero, flatRh_nils]
theorem fillRh_step {hs : List Rh} {n : Nat} (y : Rh) (hn : hs.length < n) : (fillRh hs n).set hs.length (.slice y.p y.m y.c) = fillRh (hs ++ [y]) n := by
  unfold fillRh
  rw [flatRh_set _ _ _ (by rw [List.length_append, List.length_replicate]; omega), show n - hs.length = (n - (hs.length + 1)) + 1 by omega, List.replicate_succ, List.set_append_right _ _ (Nat.le_refl _), Nat.sub_self, List.set_cons_zero, List.length_append]
  simp
set_option maxRecDepth 100000 in
set_option maxHeartbeats 4000000 in
theorem toIntSS_any {a : Option Addr} {n c : Nat} {l : List (List Int)} {w : World} (h : Rws w a n l) (hp : ∀ x ∈ l, x.length ≤ 1048576) (hn : n ≤ 1048576) :
    Calls Try.prog 19 #[.slice a n c] w (MadeL w.heap.size l w) := by
  have H := Lib.hid h
  have hl := Lib.hid h.len
  have HP := Lib.hid hp
  clear h hp
  obtain ⟨i0, hi, hz0, hz1, hz2⟩ := info_parts infoRowS
  go_enter Try.func19, Try.ntmps19
  go_wp2_with (with_reducible refine wpList_make_full _ rfl (.tmp 6) (.tmp 6) 24 rfl w.heap.size 29 i0 (.slice none 0 0) 1 Try.underlying24 hi hz0 hz1 .i64 .i64 _ _ n rfl rfl (by omega) (by omega) ?c1 ?c2 ?c3 ?_)
  case c1 => rw [hz2]; omega
  case c2 => unfold maxLen; omega
  case c3 => omega
  intro w1 hown hgrow
  have hb1 : Below w.heap.size w w1 := (Below.refl _ w).grown hgrow (Nat.le_refl _) (fun _ e => by cases e)
  have HO : Hid (w1.ownsRow w.heap.size 29 1 (.slice (some ⟨w.heap.size, 0, none⟩) n n) n (fillRh [] n)) := by
    refine Lib.hid ?_
    rw [fillRh_nil]
    simpa [Value.cells, toList_madeCells_one] using hown
  have HB := Lib.hid hb1
  clear hown hgrow hb1 hi hz0 hz1 hz2
  go_wp2_with fail
  go_loopw [4] (fun i wr => ∃ (j : Nat) (hs : List Rh), j ≤ n ∧ hs.length = j ∧ i = .int .i64 j ∧ wr.ownsRow w.heap.size 29 1 (.slice (some ⟨w.heap.size, 0, none⟩) n n) n (fillRh hs n) ∧ RowsL wr.heap.size wr w.heap.size (some ⟨w.heap.size, 0, none⟩) hs (l.take j) ∧ Below w.heap.size w wr) (fun i _ => n - (intOf i).toNat)
  case atStart => exact ⟨0, [], Nat.zero_le _, rfl, rfl, HO.out, RowsL.nil, HB.out⟩
  case round =>
    obtain ⟨j, hs, hj, hsl, rfl, hown, hrw, hb⟩ := hrel
    have HO2 := Lib.hid hown
    have HB2 := Lib.hid hb
    have HRW := Lib.hid hrw
    have hgw : w.heap.size < wr.heap.size := (hown.lt w.heap.size rfl).2
    clear hown hb hrw
    by_cases hlt : j < n
    · obtain ⟨ad, p, m, d, y, rfl, hy, hc0, hN, hr⟩ := (H.out.same HB2.out).at_ hlt
      have HU := Lib.hid hy
      have hpu := HP.out y (List.mem_of_getElem? hy)
      have hym := hN.len
      have HT := Lib.hid (toIntS_any p m d y wr hN (by omega))
      clear hy hN
      go_wp2_with fail
      refine HT.out.mono ?_
      rintro e w2 ⟨p2, m2, d2, rfl, ho, hb2⟩
      have hsz2 := hb2.size
      have HR2 := Lib.hid ((HRW.out.far (grown_below hb2 none) (fun r e => by cases e)).push (S := wr.heap.size) hsz2 (ho.lower (by omega)) (fun ad e => ⟨(ho.span ad e).1, fun bd e2 => by cases e2; have := (ho.span ad e).1; dsimp only; omega⟩))
      have hrow : w2.ownsRow w.heap.size 29 1 (.slice (some ⟨w.heap.size, 0, none⟩) n n) n (fillRh hs n) := HO2.out.kept (grown_below hb2 none) (Or.inr (by simp [Value.ownBlock]))
      have HR := Lib.hid hrow
      have hf0 := hrow.frozenAt j
      obtain ⟨u, hu⟩ : ∃ u, w2.cell? ⟨w.heap.size, j, none⟩ = some u := by
        rw [hrow.cellAt j (by omega)]
        have : j < (fillRh hs n).length := by rw [hrow.1]; omega
        exact ⟨_, List.getElem?_eq_getElem this⟩
      have HB3 := Lib.hid (HB2.out.trans (hb2.mono HB2.out.size))
      clear hrow hb2 hc0 ho
      go_wp2
      go_roundw
      case rel =>
        have hst := HR.out.stored j (.slice p2 m2 d2)
        have hfs := fillRh_step (hs := hs) (n := n) ⟨p2, m2, d2⟩ (by omega)
        rw [hsl] at hfs
        dsimp only at hfs
        rw [hfs] at hst
        refine ⟨j + 1, hs ++ [⟨p2, m2, d2⟩], by omega, by simp [hsl], by go_num, hst.1, ?_, HB3.out.setCell (Nat.le_refl _) _⟩
        rw [List.take_add_one, HU.out]
        have hr3 := HR2.out.far hst.2 (fun r e => by cases e; exact Or.inr (Or.inr ⟨_, rfl, rfl⟩))
        have hs3 := hst.2.size
        exact ⟨hr3.1, fun jj k x q1 q2 => ⟨(hr3.2.1 jj k x q1 q2).1, fun ad e => ⟨Nat.lt_of_lt_of_le ((hr3.2.1 jj k x q1 q2).2 ad e).1 hs3, ((hr3.2.1 jj k x q1 q2).2 ad e).2⟩⟩, hr3.2.2⟩
      case measure => simp [intOf]; omega
    · obtain rfl : j = n := by omega
      have hrow := HO2.out
      rw [fillRh_all hsl] at hrow
      have hrw := HRW.out
      rw [List.take_of_length_le (by rw [hl.out]; exact Nat.le_refl _)] at hrw
      have HF : Hid (OwnL wr.heap.size wr w.heap.size (some ⟨w.heap.size, 0, none⟩) j j l) := Lib.hid ⟨hs, ⟨hsl, hrow⟩, hrw, fun ad e => by cases e; exact hgw, Nat.le_refl _⟩
      clear hrow hrw
      go_wp2_with fail
      go_ret
      exact ⟨_, _, _, rfl, HF.out, HB2.out⟩
set_option maxRecDepth 100000 in
set_option maxHeartbeats 2000000 in
theorem eqIntSSL_yes {a b : Option Addr} {n m c d : Nat} {l : List (List Int)} {w : World} (h : Rws w a n l) (h' : Rws w b m l) :
    Calls Try.prog 21 #[.slice a n c, .slice b m d] w (Told (.bool true) w) := by
  obtain rfl : n = m := by rw [← h.len, ← h'.len]
  have hn := h.fits
  have H := Lib.hid h
  have H' := Lib.hid h'
  clear h h'
  go_enter Try.func21, Try.ntmps21
  go_wp2_with fail
  go_loopw [5] (fun i wr => ∃ j : Nat, j ≤ n ∧ i = .int .i64 j ∧ Below w.heap.size w wr) (fun i _ => n - (intOf i).toNat)
  case atStart => exact ⟨0, Nat.zero_le _, rfl, Below.refl _ _⟩
  case round =>
    obtain ⟨j, hj, rfl, hb⟩ := hrel
    have HB := Lib.hid hb
    have hsr := hb.size
    clear hb
    by_cases hlt : j < n
    · obtain ⟨ad, p1, m1, d1, y, rfl, hy, hc0, hN, hr⟩ := (H.out.same HB.out).at_ hlt
      obtain ⟨bd, p2, m2, d2, y2, rfl, hy2, hc2, hN2, hr2⟩ := (H'.out.same HB.out).at_ hlt
      rw [hy] at hy2
      cases hy2
      have HMU := Lib.hid hN
      have HMV := Lib.hid hN2
      clear hy hN hN2
      go_wp2_with fail
      go_still_tail 8, (by kernel_rfl)
      have H2 : Hid (Below wr.heap.size wr wr.drew) := Lib.hid (Below.refl _ _).drew
      change wpList _ _ _ _ _ wr.drew
      generalize wr.drew = w3 at H2 ⊢
      clear hc0 hc2
      have HE := Lib.hid (eqIntS_yes p1 p2 m1 m2 d1 d2 y w3 (HMU.out.same H2.out) (HMV.out.same H2.out))
      go_wp2_with fail
      refine HE.out.mono ?_
      rintro e w4 ⟨rfl, hb4⟩
      have HB4 := Lib.hid (HB.out.trans ((H2.out.trans (hb4.mono H2.out.size)).mono hsr))
      clear hb4
      go_wp2_with fail
      go_roundw
      case rel => exact ⟨j + 1, by omega, by go_num, HB4.out⟩
      case measure => simp [intOf]; omega
    · obtain rfl : j = n := by omega
      go_wp2_with fail
      go_ret
      exact ⟨rfl, HB.out⟩
theorem trod_numsL {k : IntKind} {P : Program} {T E : TypeId} (hT : P.underlying T = some (.slice E)) (hE : P.underlying E = some (.int k)) (hone : P.cellsOf E = 1) {H : Type} {enc : TypeId × Value → H} {W : World} {n : Nat} {cs : List Value} {x : DataW H × List MemPlace}
    (h : DataW.trod enc P W 0 (fun _ => true) true n T cs = some x) :
    ∃ (a : Option Addr) (m c : Nat) (l : List Int), cs = [.slice a m c] ∧ Nums k W a m l ∧ (∀ x ∈ l, (Lit.int k x).wf = true) ∧ m ≤ c ∧ (c : Int) ≤ 9223372036854775807 := by
  rcases open_ints hT hE hone h with ⟨hcs, hx⟩ | ⟨a, len', cap', zs, hcs, _, hl, hm, hz, hx, hcell, hwz⟩
  · exact ⟨none, 0, 0, [], hcs, Nums.none, (fun _ h => by cases h), Nat.le_refl _, by omega⟩
  · have hlz : zs.length = cap' := by simpa using hz
    unfold maxLen at hm
    refine ⟨some a, len', cap', zs.take len', hcs, ⟨by rw [List.length_take]; omega, by omega, fun j hj => ⟨a, rfl, ?_⟩⟩, fun x hx => hwz x (List.mem_of_mem_take hx), hl, by omega⟩
    rw [hcell j (by omega)]
    simp [List.getD, hj]
set_option maxRecDepth 100000 in
/-- A list of lists of integers among the arguments. -/
theorem open_rows {T E I : TypeId} (hT : Try.prog.underlying T = some (.slice E)) (hE : Try.prog.underlying E = some (.slice I)) (hI : Try.prog.underlying I = some (.int .i64)) (hC : Try.prog.cellsOf E = 1) (hone : Try.prog.cellsOf I = 1)
    {H : Type} {enc : TypeId × Value → H} {W : World} {base : Nat} {v : Value} {d : DataW H} {p : List MemPlace}
    (hval : Value.okWide Try.prog W .any base T v) (h : DataW.Trod enc Try.prog W 0 (fun _ => true) true T v d p) :
    ∃ (a : Option Addr) (n c : Nat) (l : List (List Int)), v = .slice a n c ∧ Rws W a n l ∧ (∀ x ∈ l, ∀ z ∈ x, (Lit.int .i64 z).wf = true) ∧ n ≤ c ∧ (c : Int) ≤ 9223372036854775807 := by
  obtain ⟨a0, len, cap, rfl⟩ := okWide_slice hT hval
  obtain ⟨fuel, hf⟩ := h
  rcases Go.Deep.open_slice hT hf with ⟨hcs, hx⟩ | ⟨a, len', cap', m, n, D, Pl, hcs, hb, hl, hm, hmm, hx, hi⟩
  · simp [Value.cells] at hcs
    obtain ⟨rfl, rfl, rfl⟩ := hcs
    exact ⟨none, 0, 0, [], rfl, Rws.nothing, (fun _ h => by cases h), Nat.le_refl _, by omega⟩
  · simp [Value.cells] at hcs
    obtain ⟨rfl, rfl, rfl⟩ := hcs
    simp only [if_true] at hmm
    subst hmm
    have each : ∀ i, i < len → ∃ x : List Int, (∃ q k e, W.cell? (a.add i) = some (.slice q k e) ∧ Nums .i64 W q k x ∧ k ≤ e ∧ (e : Int) ≤ 9223372036854775807) ∧ ∀ z ∈ x, (Lit.int .i64 z).wf = true := by
      intro i hil
      obtain ⟨cs', hc, ht'⟩ := hi i (by omega)
      rw [hC] at hc
      obtain ⟨_, hcl, hat⟩ := World.cells?_some hc
      obtain ⟨q, k, e, x, rfl, hN, hw, hr⟩ := trod_numsL hE hI hone ht'
      refine ⟨x, ⟨q, k, e, ?_, hN, hr⟩, hw⟩
      have h0 := hat 0 (by omega)
      rw [addr_add, Nat.mul_one, Nat.add_zero] at h0
      rw [h0]
      rfl
    have each' : ∀ i, ∃ x : List Int, i < len → (∃ q k e, W.cell? (a.add i) = some (.slice q k e) ∧ Nums .i64 W q k x ∧ k ≤ e ∧ (e : Int) ≤ 9223372036854775807) ∧ ∀ z ∈ x, (Lit.int .i64 z).wf = true := fun i => by
      by_cases h : i < len
      · obtain ⟨x, hx⟩ := each i h
        exact ⟨x, fun _ => hx⟩
      · exact ⟨[], fun h' => absurd h' h⟩
    obtain ⟨g, hg⟩ := Classical.axiomOfChoice each'
    unfold maxLen at hm
    refine ⟨some a, len, m, (List.range len).map g, rfl, ⟨by simp, by omega, fun j x hj => ?_⟩, ?_, hl, by omega⟩
    · have hjl : j < len := by
        rcases Nat.lt_or_ge j len with h | h
        · exact h
        · rw [List.getElem?_eq_none (by simpa using h)] at hj; cases hj
      rw [List.getElem?_map, List.getElem?_range hjl] at hj
      cases hj
      obtain ⟨q, k, e, h0, hN, hr⟩ := (hg j hjl).1
      exact ⟨a, q, k, e, rfl, h0, hN, hr⟩
    · intro x hx
      obtain ⟨i, hi', rfl⟩ := List.mem_map.1 hx
      exact (hg i (List.mem_range.1 hi')).2
end Go.Proofs.Ytiaknjeeonlbcaa
