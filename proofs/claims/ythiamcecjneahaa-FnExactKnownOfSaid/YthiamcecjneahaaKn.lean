/- An extension copied, and the extensions whose tag is in a list: by the program. -/
import Derived.Test.YthiamcecjneahaaAre
import Derived.Test.YthiamcecjneahaaExtS
import Derived.Test.YthiamcecjneahaaValB
import Derived.Test.YthiamcecjneahaaRfI
namespace Go.Proofs.Ythiamcecjneahaa
open Go.ChangeShapes Go.WideShapes Go.ChangeAt Go.RowKit
set_option linter.unusedVariables false
set_option linter.unusedSimpArgs false

/-- What a function leaves that makes an extension. -/
def MadeX (tI : TypeId) (k : Int) (y : List Int) (w : World) (e : Ending) (w' : World) : Prop :=
  ∃ q m d, e = .returned (.agg #[.int .i64 k, .slice q m d]) ∧ Own .i64 tI w' w.heap.size q m d y ∧ Below w.heap.size w w'
set_option maxHeartbeats 4000000 in
set_option maxRecDepth 100000 in
theorem copyExt_any (k : Int) (p : Option Addr) (m c : Nat) (y : List Int) (w : World) (h : Nums .i64 w p m y) (hm : m ≤ 1048576000) :
    Calls Try.prog 54 #[.agg #[.int .i64 k, .slice p m c]] w (MadeX 3 k y w) := by
  obtain ⟨i0, hi, hz0, hz1, hz2⟩ := info_parts infoIntS
  have HI := Lib.hid (And.intro hi (And.intro hz0 (And.intro hz1 hz2)))
  clear hi hz0 hz1 hz2
  obtain ⟨hsz, hX, hM, hB⟩ := two w #[.int .i64 k, .slice p m c] #[.int .i64 0, .slice none 0 0] 52 52
  have HN := Lib.hid (h.same hB)
  have HB := Lib.hid hB
  clear h hB
  go_enter Try.func54, Try.ntmps54
  go_wp2_with fail
  generalize (w.alloc (.cells #[.int .i64 k, .slice p m c] 52)).alloc (.cells #[.int .i64 0, .slice none 0 0] 52) = W0 at *
  have C0 := Lib.hid ((block_cell hX 0).trans rfl)
  have C1 := Lib.hid ((block_cell hX 1).trans rfl)
  have HM := Lib.hid hM
  have hszB := HB.out.size
  clear hX hM
  have HQ : Hid (Below W0.heap.size W0 (W0.alloc (.cells #[] 3)).drew) := Lib.hid (alloc_same _ _).drew
  have HO2 : Hid (Own .i64 3 (W0.alloc (.cells #[] 3)).drew W0.heap.size (some ⟨W0.heap.size, 0, none⟩) 0 0 []) := Lib.hid ((Own.empty (Nat.le_refl _)).same (Below.refl _ _).drew)
  have hs2 : W0.heap.size ≤ (W0.alloc (.cells #[] 3)).drew.heap.size := HQ.out.size
  go_region_held3 (fun w9 => w9.cell? ⟨w.heap.size, 0, none⟩ = some (.int .i64 k) ∧ w9.cell? ⟨w.heap.size, 1, none⟩ = some (.slice p m c)) (first | exact ⟨cell_stay C0.out (Below.refl _ _).drew, cell_stay C1.out (Below.refl _ _).drew⟩ | exact ⟨cell_stay C0.out HQ.out, cell_stay C1.out HQ.out⟩ | exact ⟨cell_stay C0.out HB3.out, cell_stay C1.out HB3.out⟩ | exact ⟨cell_off (cell_stay C0.out HB3.out) ((set_grown _ _ _ _).trans (set_grown _ _ _ _)) (by simp), cell_off (cell_stay C1.out HB3.out) ((set_grown _ _ _ _).trans (set_grown _ _ _ _)) (by simp)⟩) ((first | (refine step_app_g _ (by rfl) (.tmp 5) (.tmp 7) 26 (by rfl) .i64 3 i0 (.int .i64 0) 8 Try.underlying26 HI.out.1 HI.out.2.1 HI.out.2.2.1 HI.out.2.2.2 rfl (by rfl) HO2.out (by rfl) (HN.out.same HQ.out) (by omega) (by omega) hs2 ?_; intro a3 c3 w3 ho3 hg3 hl3; have HO3 := Lib.hid ho3; have HB3 : Hid (Below W0.heap.size W0 w3) := Lib.hid (grown_to hg3 HQ.out HO2.out.span (Nat.le_refl _) hs2); have hM3 : w3.heap[w.heap.size + 1]? = some (.cells #[.int .i64 0, .slice none 0 0] 52 (0, 0)) := (HB3.out.block _ (by omega)).trans HM.out; obtain ⟨m0, m1, g0, g1⟩ := two_cells hM3; clear ho3 hg3 hl3)))
  obtain ⟨z0, z1, hZ⟩ := two_put hM3 (.int .i64 k) (.slice a3 m c3)
  have HS3 := Lib.hid HO3.out.span
  have HG3 : Hid (Below w.heap.size w w3) := Lib.hid (HB.out.trans (HB3.out.mono hszB))
  have hs3 := HB3.out.size
  clear hM3 m0 m1 g0 g1 hZ
  go_wp2_with fail
  (try simp only [Exit.inBlock, Exit.then])
  refine bodyPost_ret (by simp [results, Try.results54, go_sem, z0, z1]; try rfl) rfl ?_
  have hd : ∀ ad, a3 = some ad → ad.block ≠ w.heap.size + 1 := fun ad e => by
    have := (HS3.out ad e).1
    omega
  have h9 := ((HO3.out.lower hszB).set hd 0 (.int .i64 k)).set hd 1 (.slice a3 m c3)
  rw [Nat.zero_add] at h9
  exact ⟨_, _, _, rfl, h9, (HG3.out.setCell (by dsimp only; omega) _).setCell (by dsimp only; omega) _⟩
theorem known_yes {l : List Vl} {ts : List Int} {j : Nat} {x : Vl} (hx : l[j]? = some x) (h : x.num ∈ ts) : knownOf (l.take (j + 1)) ts = knownOf (l.take j) ts ++ [x] := by
  rw [List.take_add_one, hx]
  simp [knownOf, h]
theorem known_no {l : List Vl} {ts : List Int} {j : Nat} {x : Vl} (hx : l[j]? = some x) (h : ¬ x.num ∈ ts) : knownOf (l.take (j + 1)) ts = knownOf (l.take j) ts := by
  rw [List.take_add_one, hx]
  simp [knownOf, h]
theorem known_few (l : List Vl) (ts : List Int) : (knownOf l ts).length ≤ l.length := List.length_filter_le _ _
theorem known_items : ∀ (l : List Vl) (ts : List Int), itemsOf (knownOf l ts) ≤ itemsOf l
  | [], _ => Nat.le_refl _
  | x :: t, ts => by
    have := known_items t ts
    unfold knownOf itemsOf at *
    rw [List.filter_cons]
    split <;> simp <;> omega
set_option maxHeartbeats 4000000 in
set_option maxRecDepth 100000 in
theorem knownOf_any {a b : Option Addr} {n c m d : Nat} {l : List Vl} {ts : List Int} {w : World} (h : Vals w a n l) (h' : Nums .i64 w b m ts) (hz : ∀ z ∈ tagsX l, (Lit.int .i64 z).wf = true) (hz' : ∀ z ∈ ts, (Lit.int .i64 z).wf = true) (hn : n ≤ 1048576) (hit : itemsOf l ≤ 1048576) (hm : m ≤ 1048576000) :
    Calls Try.prog 20 #[.slice a n c, .slice b m d] w (MadeV 52 3 w.heap.size (knownOf l ts) w) := by
  have H := Lib.hid h
  have hln := Lib.hid h.len
  have HZ := Lib.hid hz
  have HP := Lib.hid (placesOf_any b m d ts w h' hz' hm)
  obtain ⟨i0, hi, hz0, hz1, hz2⟩ := info_parts infoExtS
  have HI := Lib.hid (And.intro hi (And.intro hz0 (And.intro hz1 hz2)))
  clear h h' hz hz' hi hz0 hz1 hz2
  go_enter Try.func20, Try.ntmps20
  go_wp2_with fail
  refine HP.out.mono ?_
  rintro e w1 ⟨rfl, hown, hb1⟩
  have HM := Lib.hid hown
  have HB1 := Lib.hid hb1
  have hs1 := hb1.size
  have hmlt := hown.lt
  have HO : Hid (OwnV 52 3 (w1.alloc (.cells #[] 52)) w1.heap.size (some ⟨w1.heap.size, 0, none⟩) 0 0 (knownOf (l.take 0) ts)) := Lib.hid (OwnV.empty (Nat.le_refl _))
  clear hown hb1 HP
  go_wp2_with fail
  go_loopw [6, 16] (fun v i wr => ∃ (j : Nat) (q : Option Addr) (r e : Nat), j ≤ n ∧ i = .int .i64 j ∧ v = .slice q r e ∧ OwnV 52 3 wr w1.heap.size q r e (knownOf (l.take j) ts) ∧ Below w1.heap.size w1 wr) (fun _ i _ => n - (intOf i).toNat)
  case atStart => exact ⟨0, _, _, _, Nat.zero_le _, rfl, rfl, HO.out, alloc_same _ _⟩
  case round =>
    obtain ⟨j, q, r, e, hj, rfl, rfl, hown, hb⟩ := hrel
    have HO2 := Lib.hid hown
    have HB2 := Lib.hid hb
    clear hown hb
    by_cases hlt : j < n
    · obtain ⟨bb, o, p, pm, pd, k, y, rfl, hx, hc0, hc1, hN, hr⟩ := (H.out.same (HB1.out.trans (HB2.out.mono hs1))).at_ hlt
      have hsz := HB2.out.size
      have hym := hN.len
      have hyi := itemsOf_mem hx
      dsimp only at hyi
      have hrl : r ≤ 1048576 := by
        have h1 := HO2.out.len
        have h2 := known_few (l.take j) ts
        rw [List.length_take] at h2
        omega
      have HW : Hid (Below wr.heap.size wr (wr.alloc (.cells #[.int .i64 k, .slice p pm pd] 52))) := Lib.hid (alloc_same _ _)
      have hs2 : wr.heap.size ≤ (wr.alloc (.cells #[.int .i64 k, .slice p pm pd] 52)).heap.size := HW.out.size
      have HC := Lib.hid (copyExt_any k p pm pd y _ (hN.same HW.out) (by omega))
      have hkey := Maps.keyOf_int_mk Try.underlying3 (HZ.out k (tags_mem hx))
      have hm2 := HM.out.kept (w' := wr.alloc (.cells #[.int .i64 k, .slice p pm pd] 52)) (grown_below (HB2.out.trans (HW.out.mono hsz)) none) (by simp)
      by_cases hk : k ∈ ts
      · have HH : Hid (Maps.has (pl 0 ts) (.int .i64 k) = true) := Lib.hid (by rw [pl_has]; exact decide_eq_true hk)
        have HK : Hid (knownOf (l.take (j + 1)) ts = knownOf (l.take j) ts ++ [⟨k, y⟩]) := Lib.hid (known_yes hx hk)
        unfold MadeX at HC
        clear hx hN hk
        go_wp2_with (at_lookup; refine wpList_lookup_own_ok_int _ rfl _ _ 57 rfl 3 3 .i64 int_keys Try.underlying57 Try.underlying3 (map_zero _) w.heap.size m (pl 0 ts) rfl hm2 _ _ rfl hkey ?_; intro cc hcc _; rw [HH.out])
        refine HC.out.mono ?_
        rintro e3 w3 ⟨q3, m3, d3, rfl, ho3, hb3⟩
        have HO3 := Lib.hid ho3
        have HB3 := Lib.hid (HW.out.trans (hb3.mono hs2))
        have hs3 := HB3.out.size
        have HNN : Hid (Items Vh.enc 2 (w3.alloc (.cells #[.int .i64 k, .slice q3 m3 d3] 52)) (some ⟨w3.heap.size, 0, none⟩) 1 [⟨k, q3, m3, d3⟩]) := Lib.hid (items_new Vh.enc_len w3 ⟨k, q3, m3, d3⟩ 52)
        clear hb3 hcc hc0 hc1 ho3 hm2
        go_wp2_with (at_builtin; refine wpl_appV (S := wr.heap.size) (B := w1.heap.size) _ rfl (.tmp 28) (.tmp 31) 24 rfl 52 3 i0 (.agg #[.int .i64 0, .slice none 0 0]) 32 Try.underlying24 HI.out.1 HI.out.2.1 HI.out.2.2.1 HI.out.2.2.2 rfl rfl ((HO2.out.lim.same HB3.out).same (alloc_same _ _)) rfl HNN.out ((HO3.out.lower (by omega)).alloc _) (fun ad e => by have := (HO3.out.span ad e).1; omega) (by omega) ?c4 ?c5 ?_)
        case c4 => omega
        case c5 => simp; omega
        intro a4 c4 w4 ho4 hb4
        have HO4 : Hid (OwnV 52 3 w4 w1.heap.size a4 (r + 1) c4 (knownOf (l.take (j + 1)) ts)) := Lib.hid (by rw [HK.out]; exact ho4)
        have HB4 : Hid (Below w1.heap.size w1 w4) := Lib.hid ((HB2.out.trans (HB3.out.mono hsz)).trans ((((alloc_same _ _).mono (Nat.le_trans hsz hs3))).trans hb4))
        clear ho4 hb4
        go_wp2_with fail
        go_roundw
        case rel => exact ⟨j + 1, a4, _, c4, by omega, by go_num, rfl, HO4.out, HB4.out⟩
        case measure => simp [intOf]; omega
      · have HH : Hid (Maps.has (pl 0 ts) (.int .i64 k) = false) := Lib.hid (by rw [pl_has]; exact decide_eq_false hk)
        have HK : Hid (knownOf (l.take (j + 1)) ts = knownOf (l.take j) ts) := Lib.hid (known_no hx hk)
        clear hx hN hk HC
        go_wp2_with (at_lookup; refine wpList_lookup_own_ok_int _ rfl _ _ 57 rfl 3 3 .i64 int_keys Try.underlying57 Try.underlying3 (map_zero _) w.heap.size m (pl 0 ts) rfl hm2 _ _ rfl hkey ?_; intro cc hcc _; rw [HH.out])
        go_roundw
        case rel => exact ⟨j + 1, q, r, e, by omega, by go_num, rfl, by rw [HK.out]; exact HO2.out.same HW.out, HB2.out.trans (HW.out.mono hsz)⟩
        case measure => simp [intOf]; omega
    · obtain rfl : j = n := by omega
      go_wp2
      go_ret
      have h1 := HO2.out
      rw [List.take_of_length_le (by rw [hln.out]; omega)] at h1
      exact ⟨_, _, _, rfl, h1.lower hs1, HB1.out.trans (HB2.out.mono hs1)⟩
end Go.Proofs.Ythiamcecjneahaa
