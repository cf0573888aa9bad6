/- The extensions whose tags are asked for, by the program: what it asks is a function that may have captured a variable. The extensions whose tag is in a list: by the program. The extensions whose tag is in a list: by the model. A list of extensions is written: by the program. A list of extensions is written: by the model. -/
import Derived.Test.YtnjjfagokbbelaaG9
import Derived.Deep.RegionHeld3
import Derived.Test.YtnjjfagokbbelaaG8
namespace Go.Proofs.Ytnjjfagokbbelaa
open Go.ChangeShapes Go.WideShapes Go.ChangeAt Go.RowKit
set_option linter.unusedVariables false
set_option linter.unusedSimpArgs false

set_option maxHeartbeats 4000000 in
set_option maxRecDepth 100000 in
theorem extsWhereK_any (f : Int → Bool) (P : Nat) {a : Option Addr} {n c : Nat} {l : List Vl} {w : World} (h : Vals w a n l) (hz : ∀ z ∈ tagsX l, (Lit.int .i64 z).wf = true)
    (hA : ∀ (k : Int) (W : World), (Lit.int .i64 k).wf = true → Below w.heap.size w W → Calls Try.prog 62 #[.int .i64 k, .pointer (some ⟨P, 0, none⟩)] W (Told (.bool (f k)) W)) (hn : n ≤ 1048576) (hit : itemsOf l ≤ 1048576) :
    Calls Try.prog 61 #[.slice a n c, .func (.func 62) #[] #[.pointer (some ⟨P, 0, none⟩)]] w (MadeV 57 3 w.heap.size (whX f l) w) := by
  have H := Lib.hid h
  have hln := Lib.hid h.len
  have HZ := Lib.hid hz
  have HA := Lib.hid hA
  obtain ⟨i0, hi, hz0, hz1, hz2⟩ := info_parts infoExtS
  have HI := Lib.hid (And.intro hi (And.intro hz0 (And.intro hz1 hz2)))
  have HO : Hid (OwnV 57 3 (w.alloc (.cells #[] 57)) w.heap.size (some ⟨w.heap.size, 0, none⟩) 0 0 (whX f (l.take 0))) := Lib.hid (OwnV.empty (Nat.le_refl _))
  clear h hz hA hi hz0 hz1 hz2
  go_enter Try.func61, Try.ntmps61
  go_wp2_with fail
  go_loopw [5, 11] (fun v i wr => ∃ (j : Nat) (q : Option Addr) (r e : Nat), j ≤ n ∧ i = .int .i64 j ∧ v = .slice q r e ∧ OwnV 57 3 wr w.heap.size q r e (whX f (l.take j)) ∧ Below w.heap.size w wr) (fun _ i _ => n - (intOf i).toNat)
  case atStart => exact ⟨0, _, _, _, Nat.zero_le _, rfl, rfl, HO.out, alloc_same _ _⟩
  case round =>
    obtain ⟨j, q, r, e, hj, rfl, rfl, hown, hb⟩ := hrel
    have HO2 := Lib.hid hown
    have HB2 := Lib.hid hb
    clear hown hb
    by_cases hlt : j < n
    · obtain ⟨bb, o, p, pm, pd, k, y, rfl, hx, hc0, hc1, hN, hr⟩ := (H.out.same HB2.out).at_ hlt
      have hsz := HB2.out.size
      have hym := hN.len
      have hyi := itemsOf_mem hx
      dsimp only at hyi
      have hrl : r ≤ 1048576 := by
        have h1 := HO2.out.len
        have h2 := wh_few f (l.take j)
        rw [List.length_take] at h2
        omega
      have HW : Hid (Below wr.heap.size wr (wr.alloc (.cells #[.int .i64 k, .slice p pm pd] 57))) := Lib.hid (alloc_same _ _)
      have HWc : Hid ((wr.alloc (.cells #[.int .i64 k, .slice p pm pd] 57)).cell? ⟨wr.heap.size, 0, none⟩ = some (.int .i64 k) ∧ (wr.alloc (.cells #[.int .i64 k, .slice p pm pd] 57)).cell? ⟨wr.heap.size, 1, none⟩ = some (.slice p pm pd)) := Lib.hid ⟨block_cell (heap_alloc_new wr _) 0, block_cell (heap_alloc_new wr _) 1⟩
      have hs2 : wr.heap.size ≤ (wr.alloc (.cells #[.int .i64 k, .slice p pm pd] 57)).heap.size := HW.out.size
      have HK := Lib.hid (HA.out k (wr.alloc (.cells #[.int .i64 k, .slice p pm pd] 57)) (HZ.out k (tags_mem hx)) (HB2.out.trans (HW.out.mono hsz)))
      have HNp := Lib.hid hN
      cases hk : f k with
      | true =>
        have HF : Hid (whX f (l.take (j + 1)) = whX f (l.take j) ++ [⟨k, y⟩]) := Lib.hid (wh_yes hx hk)
        rw [hk] at HK
        clear hx hN hk
        go_wp2_with fail
        refine HK.out.mono ?_
        rintro e2 w2 ⟨rfl, hb2⟩
        have HB3 : Hid (Below wr.heap.size wr w2) := Lib.hid (HW.out.trans (hb2.mono hs2))
        have c0 := cell_stay HWc.out.1 hb2
        have c1 := cell_stay HWc.out.2 hb2
        have hs3 := HB3.out.size
        have HC := Lib.hid (copyExt_any k p pm pd y w2 (HNp.out.same HB3.out) (by omega))
        unfold MadeX at HC
        clear hb2 HK
        go_wp2_with fail
        refine HC.out.mono ?_
        rintro e3 w3 ⟨q3, m3, d3, rfl, ho3, hb3⟩
        have HO3 := Lib.hid ho3
        have HB4 := Lib.hid (HB3.out.trans (hb3.mono hs3))
        have hs4 := HB4.out.size
        have HNN : Hid (Items Vh.enc 2 (w3.alloc (.cells #[.int .i64 k, .slice q3 m3 d3] 57)) (some ⟨w3.heap.size, 0, none⟩) 1 [⟨k, q3, m3, d3⟩]) := Lib.hid (items_new Vh.enc_len w3 ⟨k, q3, m3, d3⟩ 57)
        clear hb3 hc0 hc1 ho3 c0 c1
        go_wp2_with (at_builtin; refine wpl_appV (S := wr.heap.size) (B := w.heap.size) _ rfl (.tmp 19) (.tmp 22) 24 rfl 57 3 i0 (.agg #[.int .i64 0, .slice none 0 0]) 32 Try.underlying24 HI.out.1 HI.out.2.1 HI.out.2.2.1 HI.out.2.2.2 rfl rfl ((HO2.out.lim.same HB4.out).same (alloc_same _ _)) rfl HNN.out ((HO3.out.lower (by omega)).alloc _) (fun ad e => by have := (HO3.out.span ad e).1; omega) (by omega) ?c4 ?c5 ?_)
        case c4 => omega
        case c5 => simp; omega
        intro a4 c4 w4 ho4 hb4
        have HO4 : Hid (OwnV 57 3 w4 w.heap.size a4 (r + 1) c4 (whX f (l.take (j + 1)))) := Lib.hid (by rw [HF.out]; exact ho4)
        have HB5 : Hid (Below w.heap.size w w4) := Lib.hid ((HB2.out.trans (HB4.out.mono hsz)).trans ((((alloc_same _ _).mono (Nat.le_trans hsz hs4))).trans hb4))
        clear ho4 hb4
        go_wp2_with fail
        go_roundw
        case rel => exact ⟨j + 1, a4, _, c4, by omega, by go_num, rfl, HO4.out, HB5.out⟩
        case measure => simp [intOf]; omega
      | false =>
        have HF : Hid (whX f (l.take (j + 1)) = whX f (l.take j)) := Lib.hid (wh_no hx hk)
        rw [hk] at HK
        clear hx hN hk
        go_wp2_with fail
        refine HK.out.mono ?_
        rintro e2 w2 ⟨rfl, hb2⟩
        have HB3 : Hid (Below wr.heap.size wr w2) := Lib.hid (HW.out.trans (hb2.mono hs2))
        clear hb2 HK
        go_wp2_with fail
        go_roundw
        case rel => exact ⟨j + 1, q, r, e, by omega, by go_num, rfl, by rw [HF.out]; exact HO2.out.same HB3.out, HB2.out.trans (HB3.out.mono hsz)⟩
        case measure => simp [intOf]; omega
    · obtain rfl : j = n := by omega
      go_wp2
      go_ret
      have h1 := HO2.out
      rw [List.take_of_length_le (by rw [hln.out]; omega)] at h1
      exact ⟨_, _, _, rfl, h1, HB2.out⟩
end Go.Proofs.Ytnjjfagokbbelaa
namespace Go.Proofs.Ytnjjfagokbbelaa
open Go.ChangeShapes Go.WideShapes Go.ChangeAt Go.RowKit
set_option linter.unusedVariables false
set_option linter.unusedSimpArgs false

set_option maxHeartbeats 1000000 in
set_option maxRecDepth 100000 in
theorem knownOf1_told {ts : List Int} {b m P : Nat} (k : Int) (W : World) (hk : (Lit.int .i64 k).wf = true) (hm : W.ownsMap Try.prog 3 (plainElem (H := Unit) Try.prog 3) b m (pl 0 ts)) (hc : W.cell? ⟨P, 0, none⟩ = some (.map (some b))) :
    Calls Try.prog 62 #[.int .i64 k, .pointer (some ⟨P, 0, none⟩)] W (Told (.bool (decide (k ∈ ts))) W) := by
  have hkey := Maps.keyOf_int_mk Try.underlying3 hk
  have HH : Hid (Maps.has (pl 0 ts) (.int .i64 k) = decide (k ∈ ts)) := Lib.hid (pl_has _ _ _)
  have HM := Lib.hid hm
  clear hm
  go_enter Try.func62, Try.ntmps62
  go_wp2_with (at_lookup; refine wpList_lookup_own_ok_int _ rfl _ _ 62 rfl 3 3 .i64 int_keys Try.underlying62 Try.underlying3 (map_zero _) b m (pl 0 ts) rfl HM.out _ _ rfl hkey ?_; intro cc hcc _; rw [HH.out])
  go_ret
  exact ⟨rfl, Below.refl _ _⟩
set_option maxHeartbeats 4000000 in
set_option maxRecDepth 100000 in
theorem knownOf_any {a b : Option Addr} {n c m d : Nat} {l : List Vl} {ts : List Int} {w : World} (h : Vals w a n l) (h' : Nums .i64 w b m ts) (hz : ∀ z ∈ tagsX l, (Lit.int .i64 z).wf = true) (hz' : ∀ z ∈ ts, (Lit.int .i64 z).wf = true) (hn : n ≤ 1048576) (hit : itemsOf l ≤ 1048576) (hm : m ≤ 1048576000) :
    Calls Try.prog 20 #[.slice a n c, .slice b m d] w (MadeV 57 3 w.heap.size (knownOf l ts) w) := by
  have HP := Lib.hid (placesOf_any b m d ts w h' hz' hm)
  have H := Lib.hid h
  clear h h'
  rw [knownOf_wh]
  go_enter Try.func20, Try.ntmps20
  go_wp2_with fail
  refine HP.out.mono ?_
  rintro e w1 ⟨rfl, hown, hb1⟩
  have HM := Lib.hid hown
  have HB1 := Lib.hid hb1
  have hs1 := hb1.size
  have hmlt := hown.lt
  have hal : Below w1.heap.size w1 (w1.alloc (.cells #[.map (some w.heap.size)] 62)) := alloc_same _ _
  have hcl : (w1.alloc (.cells #[.map (some w.heap.size)] 62)).cell? ⟨w1.heap.size, 0, none⟩ = some (.map (some w.heap.size)) := block_cell (heap_alloc_new w1 _) 0
  have HW := Lib.hid (extsWhereK_any (fun k => decide (k ∈ ts)) w1.heap.size (a := a) (n := n) (c := c) (l := l) (w := w1.alloc (.cells #[.map (some w.heap.size)] 62)) ((H.out.same HB1.out).same hal) hz (fun k W hk hb =>
    knownOf1_told k W hk (HM.out.kept (grown_below (hal.trans (hb.mono hal.size)) none) (by simp)) (cell_stay hcl hb)) hn hit)
  have HAL := Lib.hid hal
  clear hown hb1 HP hal hcl
  go_wp2_with fail
  refine HW.out.mono ?_
  rintro e w2 ⟨q, m2, d2, rfl, ho, hb2⟩
  have hs2 := HAL.out.size
  have HR : Hid (MadeV 57 3 w.heap.size (whX (fun k => decide (k ∈ ts)) l) w (.returned (.slice q m2 d2)) w2) := Lib.hid ⟨_, _, _, rfl, ho.lower (by omega), HB1.out.trans ((HAL.out.mono hs1).trans (hb2.mono (by omega)))⟩
  clear ho hb2
  go_wp2_with fail
  go_ret
  exact HR.out
end Go.Proofs.Ytnjjfagokbbelaa
namespace Go.Proofs.Ytnjjfagokbbelaa
open Go.ChangeShapes Go.WideShapes Go.ChangeAt Go.RowKit
set_option linter.unusedVariables false
set_option linter.unusedSimpArgs false

set_option maxHeartbeats 4000000 in
set_option maxRecDepth 100000 in
theorem specKnownOf_any {a b : Option Addr} {n c m d : Nat} {l : List Vl} {ts : List Int} {w : World} (h : Vals w a n l) (h' : Nums .i64 w b m ts) (hn : n ≤ 1048576) (hit : itemsOf l ≤ 1048576) :
    Calls Try.prog 34 #[.slice a n c, .slice b m d] w (MadeV 57 3 w.heap.size (knownOf l ts) w) := by
  have H := Lib.hid h
  have HT := Lib.hid h'
  have hln := Lib.hid h.len
  obtain ⟨i0, hi, hz0, hz1, hz2⟩ := info_parts infoExtS
  have HI := Lib.hid (And.intro hi (And.intro hz0 (And.intro hz1 hz2)))
  obtain ⟨i1, ki, kz0, kz1, kz2⟩ := info_parts infoIntS
  have HJ := Lib.hid (And.intro ki (And.intro kz0 (And.intro kz1 kz2)))
  clear h h' hi hz0 hz1 hz2 ki kz0 kz1 kz2
  have HO : Hid (OwnV 57 3 (w.alloc (.cells #[] 57)) w.heap.size (some ⟨w.heap.size, 0, none⟩) 0 0 (knownOf (l.take 0) ts)) := Lib.hid (OwnV.empty (Nat.le_refl _))
  go_enter Try.func34, Try.ntmps34
  go_wp2_with fail
  go_loopw [5, 6] (fun v i wr => ∃ (j : Nat) (q : Option Addr) (r e : Nat), j ≤ n ∧ i = .int .i64 j ∧ v = .slice q r e ∧ OwnV 57 3 wr w.heap.size q r e (knownOf (l.take j) ts) ∧ Below w.heap.size w wr) (fun _ i _ => n - (intOf i).toNat)
  case atStart => exact ⟨0, _, _, _, Nat.zero_le _, rfl, rfl, HO.out, alloc_same _ _⟩
  case round =>
    obtain ⟨j, q, r, e, hj, rfl, rfl, hown, hb⟩ := hrel
    have HO2 := Lib.hid hown
    have HB2 := Lib.hid hb
    clear hown hb
    by_cases hlt : j < n
    · obtain ⟨bb, o, p, pm, pd, k, y, rfl, hx, hd0, hd1, hN, hr⟩ := H.out.at_ hlt
      have hsz := HB2.out.size
      have hym := hN.len
      have hyi := itemsOf_mem hx
      dsimp only at hyi
      have hrl : r ≤ 1048576 := by
        have h1 := HO2.out.len
        have h2 := known_few (l.take j) ts
        rw [List.length_take] at h2
        omega
      have hpm : pm ≤ 1048576 := by omega
      have HSK : Hid (∀ w9, Below w.heap.size w w9 → w9.cell? ⟨bb, o + j * 2, none⟩ = some (.int .i64 k) ∧ w9.cell? ⟨bb, o + j * 2 + 1, none⟩ = some (.slice p pm pd)) := Lib.hid (fun w9 h9 => ⟨cell_stay hd0 h9, cell_stay hd1 h9⟩)
      obtain ⟨hc0, hc1⟩ := HSK.out wr HB2.out
      have HN := Lib.hid (fun w9 (h9 : Below w.heap.size w w9) => hN.same h9)
      have KH := Lib.hid (l9Has_any (c := d) k (HT.out.same HB2.out))
      by_cases hk : k ∈ ts
      · have HK : Hid (knownOf (l.take (j + 1)) ts = knownOf (l.take j) ts ++ [⟨k, y⟩]) := Lib.hid (known_yes hx hk)
        rw [decide_eq_true hk] at KH
        clear hx hN hk hd0 hd1 hym hyi
        have HBd : Hid (Below w.heap.size w wr.drew) := Lib.hid HB2.out.drew
        have HQ : Hid (Below wr.heap.size wr (wr.alloc (.cells #[] 3)).drew) := Lib.hid (alloc_same _ _).drew
        have HBQ : Hid (Below w.heap.size w (wr.alloc (.cells #[] 3)).drew) := Lib.hid (HB2.out.trans (HQ.out.mono hsz))
        have HOQ : Hid (Own .i64 3 (wr.alloc (.cells #[] 3)).drew wr.heap.size (some ⟨wr.heap.size, 0, none⟩) 0 0 []) := Lib.hid ((Own.empty (Nat.le_refl _)).same (Below.refl _ _).drew)
        have hs2 : wr.heap.size ≤ (wr.alloc (.cells #[] 3)).drew.heap.size := HQ.out.size
        go_wp2_with (go_at_call 74; refine KH.out.mono ?_; rintro e9 w9 ⟨rfl, rfl⟩)
        go_region_held3 (fun w9 => w9.cell? ⟨bb, o + j * 2, none⟩ = some (.int .i64 k) ∧ w9.cell? ⟨bb, o + j * 2 + 1, none⟩ = some (.slice p pm pd)) (first | exact HSK.out _ HBd.out | exact HSK.out _ HBQ.out | exact HSK.out _ HB3.out | exact HSK.out _ HB4.out | exact HSK.out _ HB5.out) ((first | (refine step_app_g _ (by rfl) (.tmp 27) (.tmp 32) 26 (by rfl) .i64 3 i1 (.int .i64 0) 8 Try.underlying26 HJ.out.1 HJ.out.2.1 HJ.out.2.2.1 HJ.out.2.2.2 rfl (by rfl) HOQ.out (by rfl) (HN.out _ HBQ.out) (by omega) (by omega) hs2 ?_; intro a3 c3 w3 ho3 hg3 hl3; have HO3 := Lib.hid ho3; have HQ3 : Hid (Below wr.heap.size wr w3) := Lib.hid (grown_to hg3 HQ.out HOQ.out.span (Nat.le_refl _) hs2); have HB3 : Hid (Below w.heap.size w w3) := Lib.hid (HB2.out.trans (HQ3.out.mono hsz)); have hs3 := HQ3.out.size; have HB4 : Hid (Below w.heap.size w (w3.alloc (.cells #[.int .i64 k, .slice a3 pm c3] 57))) := Lib.hid (HB3.out.alloc HB3.out.size _); have HNN : Hid (Items Vh.enc 2 (w3.alloc (.cells #[.int .i64 k, .slice a3 pm c3] 57)) (some ⟨w3.heap.size, 0, none⟩) 1 [⟨k, a3, pm, c3⟩]) := Lib.hid (items_new Vh.enc_len w3 ⟨k, a3, pm, c3⟩ 57); have HO4 : Hid (Own .i64 3 (w3.alloc (.cells #[.int .i64 k, .slice a3 pm c3] 57)) w.heap.size a3 pm c3 y) := Lib.hid (by have h9 := (ho3.lower hsz).alloc (.cells #[.int .i64 k, .slice a3 pm c3] 57); rw [Nat.zero_add] at h9; exact h9); clear ho3 hg3 hl3) | (refine step_appV (S := wr.heap.size) (B := w.heap.size) _ (by rfl) (.tmp 21) (.tmp 35) 24 (by rfl) 57 3 i0 (.agg #[.int .i64 0, .slice none 0 0]) 32 Try.underlying24 HI.out.1 HI.out.2.1 HI.out.2.2.1 HI.out.2.2.2 rfl (by rfl) ((HO2.out.lim.same HQ3.out).same (alloc_same _ _)) (by rfl) HNN.out HO4.out (fun ad e => (HO3.out.span ad e).1) (by omega) (by omega) (by simp; omega) ?_; intro a5 c5 w5 ho5 hb5; have HO5 := Lib.hid ho5; have HB5 : Hid (Below w.heap.size w w5) := Lib.hid (HB4.out.trans hb5); clear ho5 hb5)))
        go_wp2_with fail
        go_roundw
        case rel => exact ⟨j + 1, a5, _, c5, by omega, by go_num, rfl, by rw [HK.out]; exact HO5.out, HB5.out⟩
        case measure => simp [intOf]; omega
      · have HK : Hid (knownOf (l.take (j + 1)) ts = knownOf (l.take j) ts) := Lib.hid (known_no hx hk)
        rw [decide_eq_false hk] at KH
        clear hx hN hk hd0 hd1 hym hyi
        go_wp2_with (go_at_call 74; refine KH.out.mono ?_; rintro e9 w9 ⟨rfl, rfl⟩)
        go_roundw
        case rel => exact ⟨j + 1, q, r, e, by omega, by go_num, rfl, by rw [HK.out]; exact HO2.out, HB2.out⟩
        case measure => simp [intOf]; omega
    · obtain rfl : j = n := by omega
      go_wp2
      go_ret
      have h1 := HO2.out
      rw [List.take_of_length_le (by rw [hln.out]; omega)] at h1
      exact ⟨_, _, _, rfl, h1, HB2.out⟩
end Go.Proofs.Ytnjjfagokbbelaa
namespace Go.Proofs.Ytnjjfagokbbelaa
open Go.ChangeShapes Go.WideShapes Go.ChangeAt Go.RowKit
set_option linter.unusedVariables false
set_option linter.unusedSimpArgs false

def encW (l : List Vl) : List Int := if areX l = true then encX l else []
theorem encW_yes {l : List Vl} (h : areX l = true) : encW l = encX l := if_pos h
theorem encW_no {l : List Vl} (h : areX l = false) : encW l = [] := if_neg (by rw [h]; decide)
theorem encW_few (l : List Vl) : (encW l).length ≤ 37 := by
  cases h : areX l with
  | true => rw [encW_yes h]; exact encX_few h
  | false => rw [encW_no h]; simp
/-- What is left by a function that writes extensions. -/
def EncXT (tI : TypeId) (l : List Vl) (w : World) (e : Ending) (w' : World) : Prop :=
  ∃ q m d, e = .returned (.tuple #[.slice q m d, .bool (areX l)]) ∧ Own .i64 tI w' w.heap.size q m d (encW l) ∧ Below w.heap.size w w'
theorem Own.take_len {k : IntKind} {t : TypeId} {w : World} {B n c : Nat} {a : Option Addr} {l : List Int} (h : Own k t w B a n c l) {l' : List Int} (e : l = l') : Own k t w B a n c l' := by rw [← e]; exact h
set_option maxHeartbeats 4000000 in
set_option maxRecDepth 100000 in
theorem encodeExts_any {a : Option Addr} {n c : Nat} {l : List Vl} {w : World} (h : Vals w a n l) :
    Calls Try.prog 13 #[.slice a n c] w (EncXT 3 l w) := by
  have H := Lib.hid h
  have hln := Lib.hid h.len
  have hfit := h.fits
  obtain ⟨i0, hi, hz0, hz1, hz2⟩ := info_parts infoIntS
  have HI := Lib.hid (And.intro hi (And.intro hz0 (And.intro hz1 hz2)))
  clear hi hz0 hz1 hz2 h
  have HA := Lib.hid (areExts_any (c := c) (H.out.same (alloc_same w (.cells #[] 3))))
  have HO0 : Hid (Own .i64 3 (w.alloc (.cells #[] 3)) w.heap.size (some ⟨w.heap.size, 0, none⟩) 0 0 []) := Lib.hid (Own.empty (Nat.le_refl _))
  have HB0 : Hid (Below w.heap.size w (w.alloc (.cells #[] 3))) := Lib.hid (alloc_same _ _)
  unfold EncXT
  cases har : areX l with
  | false =>
    rw [har] at HA
    rw [encW_no har]
    clear har
    go_enter Try.func13, Try.ntmps13
    go_wp2_with fail
    refine HA.out.mono ?_
    rintro e w1 ⟨rfl, hb1⟩
    have HB1 := Lib.hid (HB0.out.trans (hb1.mono HB0.out.size))
    have HO1 := Lib.hid (HO0.out.same hb1)
    clear hb1 HA
    go_wp2_with fail
    go_ret2
    exact ⟨_, _, _, rfl, HO1.out, HB1.out⟩
  | true =>
    rw [har] at HA
    rw [encW_yes har]
    obtain ⟨hn6, hit⟩ := areX_few har
    rw [hln.out] at hn6
    clear har
    go_enter Try.func13, Try.ntmps13
    go_wp2_with fail
    refine HA.out.mono ?_
    rintro e w1 ⟨rfl, hb1⟩
    have HB1 := Lib.hid (HB0.out.trans (hb1.mono HB0.out.size))
    have HO1 := Lib.hid (HO0.out.same hb1)
    have hs1 := HB1.out.size
    clear hb1 HA
    go_wp2_with (at_builtin; refine wpl_app _ rfl (.tmp 12) (.tmp 15) 26 rfl .i64 3 i0 (.int .i64 0) 8 Try.underlying26 HI.out.1 HI.out.2.1 HI.out.2.2.1 HI.out.2.2.2 rfl rfl (HO1.out.alloc _) rfl (nums_new _ _ _ _) (by omega) ?c1 ?c2 ?_)
    case c1 => omega
    case c2 => simp; omega
    intro a2 c2 w2 ho2 hb2
    have HO2 : Hid (Own .i64 3 w2 w.heap.size a2 1 c2 ((n : Int) :: codesX (l.take 0))) := Lib.hid ho2
    have HB2 : Hid (Below w.heap.size w w2) := Lib.hid (HB1.out.trans (((alloc_same _ _).mono hs1).trans hb2))
    clear ho2 hb2
    go_wp2_with fail
    go_loopw [4, 19] (fun v i wr => ∃ (j : Nat) (q : Option Addr) (r e : Nat), j ≤ n ∧ i = .int .i64 j ∧ v = .slice q r e ∧ Own .i64 3 wr w.heap.size q r e ((n : Int) :: codesX (l.take j)) ∧ Below w.heap.size w wr) (fun _ i _ => n - (intOf i).toNat)
    case atStart => exact ⟨0, _, _, _, Nat.zero_le _, rfl, rfl, HO2.out, HB2.out⟩
    case round =>
      obtain ⟨j, q, r, e, hj, rfl, rfl, hown, hb⟩ := hrel
      have HOr := Lib.hid hown
      have HBr := Lib.hid hb
      clear hown hb
      by_cases hlt : j < n
      · obtain ⟨bb, o, p, pm, pd, k, y, rfl, hx, hd0, hd1, hN, hr⟩ := H.out.at_ hlt
        have hc0 := cell_stay hd0 HBr.out
        have hc1 := cell_stay hd1 HBr.out
        have hsz := HBr.out.size
        have hym := hN.len
        have hyi := itemsOf_mem hx
        dsimp only at hyi
        have hpm : pm ≤ 24 := by omega
        have hrl : r ≤ 37 := by
          have h1 := HOr.out.len
          have h2 := itemsOf_le l j
          rw [List.length_cons, codesX_len, List.length_take] at h1
          omega
        have HX : Hid ((n : Int) :: codesX (l.take (j + 1)) = ((n : Int) :: codesX (l.take j) ++ [k]) ++ ((pm : Int) :: y)) := Lib.hid (by rw [codesX_take hx]; simp [codeX, hym])
        have hb0 := alloc_same wr (.cells #[.int .i64 k, .slice p pm pd] 57)
        have hw0 := heap_alloc_new wr (.cells #[.int .i64 k, .slice p pm pd] 57)
        have C0 := Lib.hid ((block_cell hw0 0).trans rfl)
        have C1 := Lib.hid ((block_cell hw0 1).trans rfl)
        have HBW := Lib.hid (HBr.out.trans (hb0.mono hsz))
        have HOW := Lib.hid (HOr.out.same hb0)
        have HOFF := Lib.hid (own_off (n := r) (c := e) HOr.out.span (Nat.le_refl _))
        have HV : Hid (∀ w9, Below w.heap.size w w9 → Nums .i64 w9 p pm y) := Lib.hid (fun w9 h9 => hN.same h9)
        clear hx hN hb0 hw0 hym hyi hd0 hd1
        go_wp2_with fail
        have hlt0 : wr.heap.size < (wr.alloc (.cells #[.int .i64 k, .slice p pm pd] 57)).heap.size := by simp
        generalize wr.alloc (.cells #[.int .i64 k, .slice p pm pd] 57) = W0 at *
        have HQ : Hid (Below W0.heap.size W0 (W0.alloc (.cells #[.int .i64 k] 3)).drew) := Lib.hid (alloc_same _ _).drew
        have HOQ : Hid (Own .i64 3 (W0.alloc (.cells #[.int .i64 k] 3)).drew w.heap.size q r e ((n : Int) :: codesX (l.take j))) := Lib.hid (HOW.out.same HQ.out)
        have HNQ : Hid (Nums .i64 (W0.alloc (.cells #[.int .i64 k] 3)).drew (some ⟨W0.heap.size, 0, none⟩) 1 [k]) := Lib.hid ((nums_new _ _ _ _).same (Below.refl _ _).drew)
        have hsW : w.heap.size ≤ W0.heap.size := HBW.out.size
        have HBQ : Hid (Below w.heap.size w (W0.alloc (.cells #[.int .i64 k] 3)).drew) := Lib.hid (HBW.out.trans (HQ.out.mono hsW))
        have hsQ : w.heap.size ≤ (W0.alloc (.cells #[.int .i64 k] 3)).drew.heap.size := HBQ.out.size
        have hltQ : wr.heap.size < (W0.alloc (.cells #[.int .i64 k] 3)).drew.heap.size := Nat.lt_of_lt_of_le hlt0 HQ.out.size
        go_region_held3 (fun w9 => w9.cell? ⟨wr.heap.size, 0, none⟩ = some (.int .i64 k) ∧ w9.cell? ⟨wr.heap.size, 1, none⟩ = some (.slice p pm pd)) (first | exact ⟨cell_stay C0.out (Below.refl _ _).drew, cell_stay C1.out (Below.refl _ _).drew⟩ | exact ⟨cell_stay C0.out HQ.out, cell_stay C1.out HQ.out⟩ | exact HC3.out | exact HC4.out) ((first | (refine step_app_g _ (by rfl) (.tmp 23) (.tmp 26) 26 (by rfl) .i64 3 i0 (.int .i64 0) 8 Try.underlying26 HI.out.1 HI.out.2.1 HI.out.2.2.1 HI.out.2.2.2 rfl (by rfl) HOQ.out (by rfl) HNQ.out (by omega) (by omega) hsQ ?_; intro a3 c3 w3 ho3 hg3 hl3; have HO3 := Lib.hid ho3; have HB3 : Hid (Below w.heap.size w w3) := Lib.hid (grown_to hg3 HBQ.out HOQ.out.span (Nat.le_refl _) hsQ); have HC3 := Lib.hid (And.intro (cell_off (cell_stay C0.out HQ.out) hg3 HOFF.out) (cell_off (cell_stay C1.out HQ.out) hg3 HOFF.out)); have HOFF3 := Lib.hid (off3 (n' := r + 1) (c' := c3) HOFF.out hl3 hltQ); have hs3 : w.heap.size ≤ w3.heap.size := HB3.out.size; clear ho3 hg3 hl3) | (go_at_call 48; refine (writeItems_any w.heap.size a3 (r + 1) c3 _ 0 p pm pd y w3 HO3.out (fun w9 h9 => HV.out w9 (HB3.out.trans h9)) hs3 (by omega) (by omega)).mono ?_; rintro e4 w4 ⟨a4, n4, c4, rfl, ho4, hg4⟩; have HO4 := Lib.hid ho4; have HB4 : Hid (Below w.heap.size w w4) := Lib.hid (grown_to hg4 HB3.out HO3.out.span (Nat.le_refl _) hs3); have HC4 := Lib.hid (And.intro (cell_off HC3.out.1 hg4 HOFF3.out) (cell_off HC3.out.2 hg4 HOFF3.out)); clear ho4 hg4)))
        go_wp2_with fail
        go_roundw
        case rel => exact ⟨j + 1, a4, n4, c4, by omega, by go_num, rfl, by rw [HX.out]; exact HO4.out, HB4.out⟩
        case measure => simp [intOf]; omega
      · obtain rfl : j = n := by omega
        go_wp2_with fail
        go_ret2
        have h1 := HOr.out
        rw [List.take_of_length_le (by rw [hln.out]; omega)] at h1
        refine ⟨_, _, _, rfl, h1.take_len ?_, HBr.out⟩
        unfold encX
        rw [hln.out]
end Go.Proofs.Ytnjjfagokbbelaa
namespace Go.Proofs.Ytnjjfagokbbelaa
open Go.ChangeShapes Go.WideShapes Go.ChangeAt Go.RowKit
set_option linter.unusedVariables false
set_option linter.unusedSimpArgs false

theorem nums_pair (w : World) (x z : Int) (t : TypeId) : Nums .i64 (w.alloc (.cells #[.int .i64 x, .int .i64 z] t)) (some ⟨w.heap.size, 0, none⟩) 2 [x, z] :=
  ⟨rfl, by omega, fun j hj => by
    have h0 := heap_alloc_new w (.cells #[.int .i64 x, .int .i64 z] t)
    refine ⟨_, rfl, ?_⟩
    rw [addr_zero, block_cell h0]
    rcases (show j = 0 ∨ j = 1 by omega) with rfl | rfl <;> rfl⟩
theorem own_oneE (w : World) (x : Int) (t : TypeId) : Own .i64 t (w.alloc (.cells #[.int .i64 x] t)) w.heap.size (some ⟨w.heap.size, 0, none⟩) 1 1 [x] :=
  ⟨rfl, World.ownsRow_lit w #[.int .i64 x] 1 (Nat.le_refl _) (by unfold maxLen; omega) rfl⟩
set_option maxHeartbeats 4000000 in
set_option maxRecDepth 100000 in
theorem specEncodeExts_any {a : Option Addr} {n c : Nat} {l : List Vl} {w : World} (h : Vals w a n l) :
    Calls Try.prog 55 #[.slice a n c] w (EncXT 3 l w) := by
  have H := Lib.hid h
  have hln := Lib.hid h.len
  have hfit := h.fits
  obtain ⟨i0, hi, hz0, hz1, hz2⟩ := info_parts infoIntS
  have HI := Lib.hid (And.intro hi (And.intro hz0 (And.intro hz1 hz2)))
  clear hi hz0 hz1 hz2 h
  have HA := Lib.hid (specAreExts_any (c := c) H.out)
  unfold EncXT
  cases har : areX l with
  | false =>
    rw [har] at HA
    rw [encW_no har]
    clear har
    go_enter Try.func55, Try.ntmps55
    go_wp2_with fail
    refine HA.out.mono ?_
    rintro e w1 ⟨rfl, rfl⟩
    go_wp2_with fail
    go_ret2
    exact ⟨_, _, _, rfl, Own.empty (Nat.le_refl _), alloc_same _ _⟩
  | true =>
    rw [har] at HA
    rw [encW_yes har]
    obtain ⟨hn6, hit⟩ := areX_few har
    rw [hln.out] at hn6
    clear har
    have HO2 : Hid (Own .i64 3 (w.alloc (.cells #[.int .i64 (n : Int)] 3)) w.heap.size (some ⟨w.heap.size, 0, none⟩) 1 1 ((n : Int) :: codesX (l.take 0))) := Lib.hid (own_oneE w n 3)
    go_enter Try.func55, Try.ntmps55
    go_wp2_with fail
    refine HA.out.mono ?_
    rintro e w1 ⟨rfl, rfl⟩
    go_wp2_with fail
    go_loopw [4, 5] (fun v i wr => ∃ (j : Nat) (q : Option Addr) (r e : Nat), j ≤ n ∧ i = .int .i64 j ∧ v = .slice q r e ∧ Own .i64 3 wr w.heap.size q r e ((n : Int) :: codesX (l.take j)) ∧ Below w.heap.size w wr) (fun _ i _ => n - (intOf i).toNat)
    case atStart => exact ⟨0, _, _, _, Nat.zero_le _, rfl, rfl, HO2.out, alloc_same _ _⟩
    case round =>
      obtain ⟨j, q, r, e, hj, rfl, rfl, hown, hb⟩ := hrel
      have HOr := Lib.hid hown
      have HBr := Lib.hid hb
      clear hown hb
      by_cases hlt : j < n
      · obtain ⟨bb, o, p, pm, pd, k, y, rfl, hx, hd0, hd1, hN, hr⟩ := H.out.at_ hlt
        have hsz := HBr.out.size
        have hym := hN.len
        have hyi := itemsOf_mem hx
        dsimp only at hyi
        have hpm : pm ≤ 24 := by omega
        have hrl : r ≤ 37 := by
          have h1 := HOr.out.len
          have h2 := itemsOf_le l j
          rw [List.length_cons, codesX_len, List.length_take] at h1
          omega
        have HX : Hid ((n : Int) :: codesX (l.take (j + 1)) = (n : Int) :: (codesX (l.take j) ++ k :: (pm : Int) :: y)) := Lib.hid (by rw [codesX_take hx]; simp [codeX, hym])
        have HSK : Hid (∀ w9, Below w.heap.size w w9 → w9.cell? ⟨bb, o + j * 2, none⟩ = some (.int .i64 k) ∧ w9.cell? ⟨bb, o + j * 2 + 1, none⟩ = some (.slice p pm pd)) := Lib.hid (fun w9 h9 => ⟨cell_stay hd0 h9, cell_stay hd1 h9⟩)
        obtain ⟨hc0, hc1⟩ := HSK.out wr HBr.out
        have HN := Lib.hid (fun w9 (h9 : Below w.heap.size w w9) => hN.same h9)
        clear hx hN hym hyi hd0 hd1
        have HBd : Hid (Below w.heap.size w wr.drew) := Lib.hid HBr.out.drew
        have HQ : Hid (Below wr.heap.size wr (wr.alloc (.cells #[.int .i64 k, .int .i64 (pm : Int)] 3)).drew) := Lib.hid (alloc_same _ _).drew
        have HOQ : Hid (Own .i64 3 (wr.alloc (.cells #[.int .i64 k, .int .i64 (pm : Int)] 3)).drew w.heap.size q r e ((n : Int) :: codesX (l.take j))) := Lib.hid (HOr.out.same HQ.out)
        have HNQ : Hid (Nums .i64 (wr.alloc (.cells #[.int .i64 k, .int .i64 (pm : Int)] 3)).drew (some ⟨wr.heap.size, 0, none⟩) 2 [k, (pm : Int)]) := Lib.hid ((nums_pair _ _ _ _).same (Below.refl _ _).drew)
        have HBQ : Hid (Below w.heap.size w (wr.alloc (.cells #[.int .i64 k, .int .i64 (pm : Int)] 3)).drew) := Lib.hid (HBr.out.trans (HQ.out.mono hsz))
        have hsQ : w.heap.size ≤ (wr.alloc (.cells #[.int .i64 k, .int .i64 (pm : Int)] 3)).drew.heap.size := HBQ.out.size
        go_wp2_with fail
        go_region_held3 (fun w9 => w9.cell? ⟨bb, o + j * 2, none⟩ = some (.int .i64 k) ∧ w9.cell? ⟨bb, o + j * 2 + 1, none⟩ = some (.slice p pm pd)) (first | exact HSK.out _ HBd.out | exact HSK.out _ HBQ.out | exact HSK.out _ HB3.out) ((first | (refine step_app_g _ (by rfl) (.tmp 19) (.tmp 31) 26 (by rfl) .i64 3 i0 (.int .i64 0) 8 Try.underlying26 HI.out.1 HI.out.2.1 HI.out.2.2.1 HI.out.2.2.2 rfl (by rfl) HOQ.out (by rfl) HNQ.out (by omega) (by omega) hsQ ?_; intro a3 c3 w3 ho3 hg3 hl3; have HO3 := Lib.hid ho3; have HB3 : Hid (Below w.heap.size w w3) := Lib.hid (grown_to hg3 HBQ.out HOQ.out.span (Nat.le_refl _) hsQ); have hs3 : w.heap.size ≤ w3.heap.size := HB3.out.size; obtain ⟨he0, he1⟩ := HSK.out w3 HB3.out; clear ho3 hg3 hl3)))
        go_wp2_with (at_builtin; refine wpl_app _ rfl (.tmp 33) (.tmp 38) 26 rfl .i64 3 i0 (.int .i64 0) 8 Try.underlying26 HI.out.1 HI.out.2.1 HI.out.2.2.1 HI.out.2.2.2 rfl rfl HO3.out rfl (HN.out _ HB3.out) (by omega) ?c1 ?c2 ?_)
        case c1 => omega
        case c2 => exact hs3
        intro a4 c4 w4 ho4 hb4
        have HO4 := Lib.hid ho4
        have HB4 : Hid (Below w.heap.size w w4) := Lib.hid (HB3.out.trans hb4)
        clear ho4 hb4
        go_wp2_with fail
        go_roundw
        case rel => exact ⟨j + 1, a4, _, c4, by omega, by go_num, rfl, by rw [HX.out]; exact HO4.out, HB4.out⟩
        case measure => simp [intOf]; omega
      · obtain rfl : j = n := by omega
        go_wp2_with fail
        go_ret2
        have h1 := HOr.out
        rw [List.take_of_length_le (by rw [hln.out]; omega)] at h1
        refine ⟨_, _, _, rfl, h1.take_len ?_, HBr.out⟩
        unfold encX
        rw [hln.out]
end Go.Proofs.Ytnjjfagokbbelaa
