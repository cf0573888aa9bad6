/- The extensions without some tags: by the program. What an append leaves of the list that it was handed: the old list stays what it was, also where the new one lies in the same block. No function of the program is spoken of. The greatest version of a word, how many bits it has, by the program: the greatest common version of two lists, the runs of one. The versions of a word as a list, by the program; a version added and one taken away. -/
import Derived.Test.YtcmjadfpifpknaaGreatG11
import Derived.Deep.LoopGhost
import Derived.Test.YtcmjadfpifpknaaGreatG14
import Derived.Test.YtcmjadfpifpknaaGreatG15
import Derived.Lib.Strings
import Derived.Lib.Small
import Derived.Lib.Tables
import Derived.Lib.BitFns
import Derived.RegionTactic
import Derived.Deep.QuietTactic
import Derived.BigQuiet
namespace Go.Proofs.YtcmjadfpifpknaaGreat
open Go.ChangeShapes Go.WideShapes Go.ChangeAt Go.RowKit
set_option linter.unusedVariables false
set_option linter.unusedSimpArgs false

set_option maxHeartbeats 4000000 in
set_option maxRecDepth 100000 in
theorem withoutTags_any {a b : Option Addr} {n c m d : Nat} {l : List Vl} {ts : List Int} {w : World} (h : Vals w a n l) (ht : Nums .i64 w b m ts) (hn : n ≤ 1048576) (hit : itemsOf l ≤ 1048576) :
    Calls Tryz.prog 145 #[.slice a n c, .slice b m d] w (MadeV 125 3 w.heap.size (whX (fun k => decide (¬ k ∈ ts)) l) w) := by
  have H := Lib.hid h
  have hln := Lib.hid h.len
  have HT := Lib.hid ht
  have htl := Lib.hid ht.len
  have hmf := ht.fits
  obtain ⟨i0, hi, hz0, hz1, hz2⟩ := info_parts infoExtS
  have HI := Lib.hid (And.intro hi (And.intro hz0 (And.intro hz1 hz2)))
  obtain ⟨f, hf⟩ : ∃ f : Int → Bool, (fun k => decide (¬ k ∈ ts)) = f := ⟨_, rfl⟩
  have HFN := Lib.hid hf
  rw [hf]
  have HO : Hid (OwnV 125 3 (w.alloc (.cells #[] 125)) w.heap.size (some ⟨w.heap.size, 0, none⟩) 0 0 (whX f (l.take 0))) := Lib.hid (OwnV.empty (Nat.le_refl _))
  clear h ht hi hz0 hz1 hz2 hf
  unfold MadeV
  go_enter Tryz.func145, Tryz.ntmps145
  go_wp2_with fail
  go_step3
  go_wp2_with fail
  go_step3
  go_wp2_with fail
  go_loopg [5, 13] n (fun k v i wr => ∃ (j : Nat) (q : Option Addr) (r e : Nat), k + j = n ∧ i = .int .i64 j ∧ v = .slice q r e ∧ OwnV 125 3 wr w.heap.size q r e (whX f (l.take j)) ∧ Below w.heap.size w wr)
  case atStart => exact ⟨0, _, _, _, rfl, rfl, rfl, HO.out, alloc_same _ _⟩
  case round =>
    obtain ⟨j, q, r, e, hkj, rfl, rfl, hown, hb⟩ := hrel
    obtain ⟨w1, hwv⟩ : ∃ u, u = wr := ⟨wr, rfl⟩
    subst hwv
    have HO2 := Lib.hid hown
    have HB2 := Lib.hid hb
    clear hown hb
    by_cases hlt : j < n
    · obtain ⟨bb, o, p, pm, pd, k, y, rfl, hx, hc0, hc1, hN, hr⟩ := (H.out.same HB2.out).at_ hlt
      have hsz := HB2.out.size
      have hym := hN.len
      have hyi := itemsOf_mem hx
      dsimp only at hyi
      have hrl : r ≤ 1048576 := by
        have h1 := HO2.out.len
        have h2 := wh_few f (l.take j)
        rw [List.length_take] at h2
        omega
      have HW : Hid (Below w1.heap.size w1 (w1.alloc (.cells #[.int .i64 k, .slice p pm pd] 125))) := Lib.hid (alloc_same _ _)
      have HWc : Hid ((w1.alloc (.cells #[.int .i64 k, .slice p pm pd] 125)).cell? ⟨w1.heap.size, 0, none⟩ = some (.int .i64 k) ∧ (w1.alloc (.cells #[.int .i64 k, .slice p pm pd] 125)).cell? ⟨w1.heap.size, 1, none⟩ = some (.slice p pm pd)) := Lib.hid ⟨block_cell (heap_alloc_new w1 _) 0, block_cell (heap_alloc_new w1 _) 1⟩
      have hs2 : w1.heap.size ≤ (w1.alloc (.cells #[.int .i64 k, .slice p pm pd] 125)).heap.size := HW.out.size
      have HNp := Lib.hid hN
      have HX := Lib.hid hx
      clear hx hN
      go_wp2_with fail
      generalize hgen : w1.alloc (.cells #[.int .i64 k, .slice p pm pd] 125) = w2 at *
      go_loopg [19] m (fun g i wx => ∃ z : Nat, g + z = m ∧ i = .int .i64 z ∧ wx = w2 ∧ ¬ k ∈ ts.take z)
      case atStart => exact ⟨0, rfl, rfl, rfl, by simp⟩
      case round =>
        obtain ⟨z, hgz, rfl, hww, hno⟩ := hrel
        subst hww
        by_cases hlt2 : z < m
        · obtain ⟨ad, t, rfl, ht, hct⟩ := (HT.out.same (HB2.out.trans (HW.out.mono hsz))).at_ hlt2
          have hc := HWc.out.1
          by_cases he : k = t
          · have he2 : (k == t) = true := by simp [he]
            have HF : Hid (whX f (l.take (j + 1)) = whX f (l.take j)) := Lib.hid (wh_no HX.out (by rw [← HFN.out]; simp only [decide_eq_false_iff_not, Classical.not_not]; rw [he]; exact List.mem_of_getElem? ht))
            clear ht hno he
            go_wp2_with fail
            go_roundg (n - (j + 1))
            case measure => omega
            case rel => exact ⟨j + 1, q, r, e, by omega, by go_num, rfl, by rw [HF.out]; exact HO2.out.same HW.out, HB2.out.trans (HW.out.mono hsz)⟩
          · have he2 : (k == t) = false := by simpa using he
            have HNO : Hid (¬ k ∈ ts.take (z + 1)) := Lib.hid (by
              rw [List.take_add_one, ht]
              intro hm
              rcases List.mem_append.1 hm with h | h
              · exact hno h
              · exact he (by simpa using h))
            clear ht hno he
            go_wp2_with fail
            go_roundg (m - (z + 1))
            case measure => omega
            case rel => exact ⟨z + 1, by omega, by go_num, rfl, HNO.out⟩
        · obtain rfl : z = m := by omega
          have HF : Hid (whX f (l.take (j + 1)) = whX f (l.take j) ++ [⟨k, y⟩]) := Lib.hid (wh_yes HX.out (by rw [← HFN.out]; rw [List.take_of_length_le (by rw [htl.out]; omega)] at hno; simpa using hno))
          have c0 := HWc.out.1
          have c1 := HWc.out.2
          have HC := Lib.hid (copyExt_any k p pm pd y wr (HNp.out.same HW.out) (by omega))
          unfold MadeX at HC
          clear hno
          go_wp2_with fail
          refine HC.out.mono ?_
          rintro e3 w3 ⟨q3, m3, d3, rfl, ho3, hb3⟩
          have HO3 := Lib.hid ho3
          have HB4 := Lib.hid (HW.out.trans (hb3.mono hs2))
          have hs4 := HB4.out.size
          have hs5 := hb3.size
          have HNN : Hid (Items Vh.enc 2 (w3.alloc (.cells #[.int .i64 k, .slice q3 m3 d3] 125)) (some ⟨w3.heap.size, 0, none⟩) 1 [⟨k, q3, m3, d3⟩]) := Lib.hid (items_new Vh.enc_len w3 ⟨k, q3, m3, d3⟩ 125)
          clear hb3 hc0 hc1 ho3 c0 c1
          go_wp2_with (at_builtin; refine wpl_appV (S := w1.heap.size) (B := w.heap.size) _ rfl (.tmp 28) (.tmp 31) 25 rfl 125 3 i0 (.agg #[.int .i64 0, .slice none 0 0]) 32 Tryz.underlying25 HI.out.1 HI.out.2.1 HI.out.2.2.1 HI.out.2.2.2 rfl rfl ((HO2.out.lim.same HB4.out).same (alloc_same _ _)) rfl HNN.out ((HO3.out.lower (by omega)).alloc _) (fun ad e => by have := (HO3.out.span ad e).1; omega) (by omega) ?c4 ?c5 ?_)
          case c4 => omega
          case c5 => simp; omega
          intro a4 c4 w4 ho4 hb4
          have HO4 : Hid (OwnV 125 3 w4 w.heap.size a4 (r + 1) c4 (whX f (l.take (j + 1)))) := Lib.hid (by rw [HF.out]; exact ho4)
          have HB5 : Hid (Below w.heap.size w w4) := Lib.hid ((HB2.out.trans (HB4.out.mono hsz)).trans ((((alloc_same _ _).mono (Nat.le_trans hsz hs4))).trans hb4))
          clear ho4 hb4
          go_wp2_with fail
          go_roundg (n - (j + 1))
          case measure => omega
          case rel => exact ⟨j + 1, a4, _, c4, by omega, by go_num, rfl, HO4.out, HB5.out⟩
    · obtain rfl : j = n := by omega
      go_wp2_with fail
      (try rw [Exit.noGoto_ret])
      go_ret
      have h1 := HO2.out
      rw [List.take_of_length_le (by rw [hln.out]; omega)] at h1
      exact ⟨_, _, _, rfl, h1, HB2.out⟩
theorem withoutOne_any {a b : Option Addr} {n c d : Nat} {l : List Vl} {t : Int} {w : World} (h : Vals w a n l) (ht : Nums .i64 w b 1 [t]) (hn : n ≤ 1048576) (hit : itemsOf l ≤ 1048576) :
    Calls Tryz.prog 145 #[.slice a n c, .slice b 1 d] w (MadeV 125 3 w.heap.size (whX (fun k => decide (¬ k = t)) l) w) := by
  have e : (fun k : Int => decide (¬ k = t)) = fun k => decide (¬ k ∈ [t]) := by funext k; simp
  rw [e]
  exact withoutTags_any h ht hn hit
end Go.Proofs.YtcmjadfpifpknaaGreat
namespace Go.Proofs.YtcmjadfpifpknaaGreat
open Go.ChangeShapes Go.WideShapes Go.ChangeAt Go.RowKit
set_option linter.unusedVariables false

section
variable {tO tI : TypeId} {w w' : World} {B S T n c : Nat} {a : Option Addr} {l : List Vl}
/-- The list of values is the call's own, in blocks from B on, none of them from S to below T. -/
def OwnVG (S T : Nat) (tO tI : TypeId) (w : World) (B : Nat) (a : Option Addr) (n c : Nat) (l : List Vl) : Prop :=
  ∃ hs : List Vh, OwnI Vh.enc 2 tO w B a n c hs ∧ RowsV tI w B a hs l ∧ (∀ ad, a = some ad → ad.block < S ∨ T ≤ ad.block) ∧ ∀ (j : Nat) (h : Vh) (ad : Addr), hs[j]? = some h → h.p = some ad → ad.block < S ∨ T ≤ ad.block
theorem OwnVG.ownV (h : OwnVG S T tO tI w B a n c l) : OwnV tO tI w B a n c l := by
  obtain ⟨hs, h1, h2, _⟩ := h
  exact ⟨hs, h1, h2⟩
theorem OwnVG.far {row : Option Nat} (h : OwnVG S T tO tI w B a n c l) (hg : w.grownBy w' row) (hr : ∀ r, row = some r → r < B ∨ (S ≤ r ∧ r < T)) : OwnVG S T tO tI w' B a n c l := by
  obtain ⟨hs, h1, h2, h3, h4⟩ := h
  have hne : ∀ x, B ≤ x → (x < S ∨ T ≤ x) → row ≠ some x := fun x hx hy e => by
    rcases hr x e with q | q <;> omega
  refine ⟨hs, h1.far hg fun ad e => hne _ (h1.span ad e).1 (h3 ad e), ⟨h2.1, fun j g x hk hx => ?_, h2.2.2⟩, h3, h4⟩
  obtain ⟨e, ho, hd⟩ := h2.2.1 j g x hk hx
  exact ⟨e, ho.far hg fun ad e => hne _ (ho.span ad e).1 (h4 j g ad hk e), hd⟩
theorem OwnVG.same (h : OwnVG S T tO tI w B a n c l) (hb : Below w.heap.size w w') : OwnVG S T tO tI w' B a n c l := h.far (grown_below hb none) fun r e => by cases e
end
section
variable {P : Program} (w : World)
/-- The row that was handed to an append of one element of two cells stays what it was. -/
theorem old_stays {t ty e : TypeId} {i : TypeInfo} {z : Value} {bytes : Nat} (ht : P.underlying t = some (.slice e)) (hi : P.info? e = some i) (hz : i.zero = some z) (hsize : i.size = 2) (hby : i.bytes = bytes)
    {B n c dd : Nat} {a : Option Addr} {ad : Addr} {xs news : List Value} {v' : Value} {w' : World} (ho : w.ownsRow B e 2 (.slice a n c) n xs) (hl : news.length = 2) (hnews : ∀ j u, news[j]? = some u → w.cell? (ad.add j) = some u) (h1 : ∀ u ∈ news, u.oneCell' = true)
    (hbytes : (n + 1) * bytes ≤ 140737488355328) (h63 : n + 1 ≤ maxLen)
    (hr : (Builtin.append_ #[t, t] ty #[.slice a n c, .slice (some ad) 1 dd]).run P w = .ok v' w') : w'.ownsRow B e 2 (.slice a n c) n xs := by
  have hs63 : n + 1 ≤ 9223372036854775807 := by unfold maxLen at h63; omega
  rcases ho.2 with hn | ⟨g, cap, cur, heq, hbg, hg, hnc, hcm, hcs, htake⟩
  · exact ⟨ho.1, .inl hn⟩
  · injection heq with e1 _ e3
    subst e1
    subst e3
    have hlt : g < w.heap.size := (Array.getElem?_eq_some_iff.1 hg).1
    by_cases hroom : n + 1 ≤ c
    · rw [run_append_room (P := P) w t ty e i ht hi g n c cur hg ad 1 dd news (by rw [hsize]; exact hl) hnews h1 hroom (by rw [hsize, hl, hcs]; omega)] at hr
      injection hr with _ hw
      subst hw
      refine ⟨ho.1, .inr ⟨g, c, _, rfl, hbg, setRow_heap w g cur _ e _ hg, hnc, hcm, ?_, ?_⟩⟩
      · have : n * 2 + 2 ≤ cur.size := by rw [hcs]; omega
        rw [hsize]
        simp only [List.size_toArray, List.length_append, List.length_take, List.length_drop, Array.length_toList, hl]
        omega
      · rw [hsize, htake, List.append_assoc]
        exact (congrArg (fun q => List.take q _) ho.1.symm).trans List.take_left
    · rw [run_append_grow (P := P) w t ty e i z ht hi hz ⟨g, 0, none⟩ n c xs (by rw [hsize]; exact ho.1) (ho.cells (g := g) rfl) ad 1 dd news (by rw [hsize]; exact hl) hnews (by omega) (by omega) (by rw [hby]; exact growslice_fits (by omega) hbytes)] at hr
      injection hr with _ hw
      subst hw
      exact ⟨ho.1, .inr ⟨g, c, cur, rfl, hbg, (Below.heap_alloc w.drew _ g hlt).trans hg, hnc, hcm, hcs, htake⟩⟩
/-- An extension without a Body is appended to a list of the call's own. -/
theorem run_appBoth (t ty e tI : TypeId) (i : TypeInfo) (z : Value) (bytes : Nat) (ht : P.underlying t = some (.slice e)) (hi : P.info? e = some i) (hz : i.zero = some z) (hsize : i.size = 2) (hby : i.bytes = bytes) (hzs : z.cells.size = 2)
    {S B n c b o dd : Nat} {a : Option Addr} {l : List Vl} {k : Int} (ho : OwnVB S e tI w B a n c l) (hn : Items Vh.enc 2 w (some ⟨b, o, none⟩) 1 [⟨k, none, 0, 0⟩])
    (hbytes : (n + 1) * bytes ≤ 140737488355328) (h63 : n + 1 ≤ maxLen) (hB : B ≤ w.heap.size) :
    ∃ a' c' w', (Builtin.append_ #[t, t] ty #[.slice a n c, .slice (some ⟨b, o, none⟩) 1 dd]).run P w = .ok (.slice a' (n + 1) c') w' ∧ OwnVG S w.heap.size e tI w' B a' (n + 1) c' (l ++ [⟨k, []⟩]) ∧ OwnVB S e tI w' B a n c l ∧ Inside B S w w' := by
  obtain ⟨hs, h1, h2, h3⟩ := ho
  have hone : ∀ u ∈ flatOf Vh.enc [(⟨k, none, 0, 0⟩ : Vh)], u.oneCell' = true := fun u hu => by
    obtain ⟨x, _, hx⟩ := List.mem_flatMap.1 hu
    exact Vh.cells x u hx
  obtain ⟨v', w', hr, q1, q2, _, q3⟩ := run_append_own_at (P := P) w B t ty e i z 2 bytes ht hi hz hsize hby hzs (by omega) (.slice a n c) n (flatOf Vh.enc hs) h1.2 ⟨b, o, none⟩ 1 dd (flatOf Vh.enc [⟨k, none, 0, 0⟩]) (by rw [flatOf_len Vh.enc_len]; rfl) (items_flat Vh.enc_len (by omega) hn) hone h63 hbytes hB
  have q0 := old_stays (P := P) (dd := dd) w ht hi hz hsize hby h1.2 (by rw [flatOf_len Vh.enc_len]; rfl) (items_flat Vh.enc_len (by omega) hn) hone hbytes h63 hr
  rw [← flatOf_app] at q1
  have hl : (hs ++ [(⟨k, none, 0, 0⟩ : Vh)]).length = n + 1 := by rw [List.length_append, h1.1]; rfl
  have hin : Inside B S w w' := Inside.row q2 fun r er => by
    obtain ⟨ad, e1, rfl⟩ := block_of er
    exact ⟨(h1.span ad e1).1, h3.1 ad e1⟩
  have hold : OwnVB S e tI w' B a n c l := ⟨hs, ⟨h1.1, q0⟩, ⟨h2.1, fun j v x hj hx => by
    obtain ⟨e1, ho1, hd1⟩ := h2.2.1 j v x hj hx
    exact ⟨e1, ho1.beside q2 hd1, hd1⟩, h2.2.2⟩, h3⟩
  rcases q1.2 with ⟨rfl, hn'⟩ | ⟨g, cap, cur, rfl, hrest⟩
  · omega
  · have hgb : (∃ bd, a = some bd ∧ bd.block = g) ∨ g = w.heap.size := by
      rcases q3 with e | e
      · left
        cases ha : a with
        | none => rw [ha] at e; simp [Value.ownBlock] at e
        | some bd => rw [ha] at e; simp only [Value.ownBlock, Option.some.injEq] at e; exact ⟨bd, rfl, e.symm⟩
      · right
        simpa [Value.ownBlock] using e
    refine ⟨_, cap, w', hr, ⟨_, ⟨hl, q1⟩, ⟨by rw [List.length_append, List.length_append, h2.1]; rfl, fun j v x hj hx => ?_, fun j j' v v' hjj hj hj' ad bd ha hb => ?_⟩, fun ad e => ?_, fun j v ad hj e => ?_⟩, hold, hin⟩
    · rcases Nat.lt_or_ge j hs.length with q | q
      · rw [List.getElem?_append_left q] at hj
        rw [List.getElem?_append_left (by rw [← h2.1]; exact q)] at hx
        obtain ⟨e1, ho1, hd1⟩ := h2.2.1 j v x hj hx
        refine ⟨e1, ho1.beside q2 hd1, fun ad bd ha hb => ?_⟩
        cases hb
        rcases hgb with ⟨cd, hc, e⟩ | e
        · have := hd1 ad cd ha hc
          rw [e] at this
          exact this
        · have := (h2.lt hj ha).2
          dsimp only
          omega
      · obtain rfl : j = hs.length := by have := lt_of_some hj; rw [List.length_append] at this; simp at this; omega
        rw [List.getElem?_append_right (Nat.le_refl _), Nat.sub_self] at hj
        rw [List.getElem?_append_right (by rw [h2.1]; exact Nat.le_refl _), h2.1, Nat.sub_self] at hx
        cases hj
        cases hx
        exact ⟨rfl, Own.nil, fun ad bd ha hb => by cases ha⟩
    · have hjl : j < hs.length := by have := lt_of_some hj'; rw [List.length_append] at this; simp at this; omega
      rw [List.getElem?_append_left hjl] at hj
      rcases Nat.lt_or_ge j' hs.length with q | q
      · rw [List.getElem?_append_left q] at hj'
        exact h2.2.2 j j' v v' hjj hj hj' ad bd ha hb
      · obtain rfl : j' = hs.length := by have := lt_of_some hj'; rw [List.length_append] at this; simp at this; omega
        rw [List.getElem?_append_right (Nat.le_refl _), Nat.sub_self] at hj'
        cases hj'
        cases hb
    · cases e
      rcases hgb with ⟨bd, hb, e2⟩ | e2
      · left
        have := h3.1 bd hb
        dsimp only
        omega
      · right
        dsimp only
        omega
    · left
      rcases Nat.lt_or_ge j hs.length with q | q
      · rw [List.getElem?_append_left q] at hj
        exact h3.2 j v ad hj e
      · obtain rfl : j = hs.length := by have := lt_of_some hj; rw [List.length_append] at this; simp at this; omega
        rw [List.getElem?_append_right (Nat.le_refl _), Nat.sub_self] at hj
        cases hj
        cases e
end
theorem wpl_appBoth {P : Program} {w : World} {ops : Array Oper} {rest : List Oper} {o : Oper} {act : Act} {Q : Exit → Act → World → Prop} (hgd : o.guard = none) (q x : Operand) (t : TypeId)
    (ho : o.op = .call { callee := .builtin .append, args := #[q, x], argTypes := #[t, t] })
    (e tI : TypeId) (i : TypeInfo) (z : Value) (bytes : Nat) (ht : P.underlying t = some (.slice e)) (hi : P.info? e = some i) (hz : i.zero = some z) (hsize : i.size = 2) (hby : i.bytes = bytes) (hzs : z.cells.size = 2)
    {S B n c b off dd : Nat} {a : Option Addr} {l : List Vl} {k : Int} (hq : act.eval q = .slice a n c) (hown : OwnVB S e tI w B a n c l) (hx : act.eval x = .slice (some ⟨b, off, none⟩) 1 dd) (hnew : Items Vh.enc 2 w (some ⟨b, off, none⟩) 1 [⟨k, none, 0, 0⟩])
    (hb1 : 0 < bytes) (hbytes : (n + 1) * bytes ≤ 140737488355328) (hB : B ≤ w.heap.size)
    (h : ∀ a' c' w', OwnVG S w.heap.size e tI w' B a' (n + 1) c' (l ++ [⟨k, []⟩]) → OwnVB S e tI w' B a n c l → Inside B S w w' → wpList P ops Q rest (act.put o.dst (.slice a' (n + 1) c')) w') : wpList P ops Q (o :: rest) act w := by
  refine wpList_plain hgd fun K hK => ?_
  have h63 : n + 1 ≤ maxLen := by
    have := Nat.mul_le_mul_left (n + 1) hb1
    unfold maxLen
    omega
  obtain ⟨a', c', w', hr, h2, h3, h4⟩ := run_appBoth (P := P) (dd := dd) w t o.type e tI i z bytes ht hi hz hsize hby hzs hown hnew hbytes h63 hB
  unfold Oper.wp execOp
  simp only [ho, resolve, invoke, builtin, Sem.run_bind, Sem.run_pure, Result.andThen_ok, List.map_toArray, List.map_cons, List.map_nil, hq, hx, hr]
  exact hK _ _ (h a' c' w' h2 h3 h4)
end Go.Proofs.YtcmjadfpifpknaaGreat
namespace Go.Proofs.YtcmjadfpifpknaaGreat
open Go.ChangeShapes Go.WideShapes Go.ChangeAt Go.RowKit
set_option linter.unusedVariables false
set_option linter.unusedSimpArgs false

theorem len_size : Lib.len8tab.size = 256 := by decide +kernel
theorem pop_size : Lib.pop8tab.size = 256 := by decide +kernel
theorem len_tab : ∀ i : Fin 256, (Lib.len8tab[i.val]'(by rw [len_size]; exact i.isLt)).toNat = Lib.bitLen i.val := by decide +kernel
theorem pop_tab : ∀ i : Fin 256, (Lib.pop8tab[i.val]'(by rw [pop_size]; exact i.isLt)).toNat = Lib.onesCount i.val := by decide +kernel
theorem len_two : ∀ x : Fin 512, (x.val < 256 ∧ Lib.bitLen x.val ≤ 8) ∨ (256 ≤ x.val ∧ Lib.bitLen x.val = 8 + Lib.bitLen (x.val / 256)) := by decide +kernel
set_option maxRecDepth 100000 in
set_option maxHeartbeats 1000000 in
theorem len16_any (x : Nat) (hx : x < 512) (w : World) : Calls Tryz.prog 97 #[.int .u16 (x : Int)] w fun e w' => e = .returned (.int .i64 (Lib.bitLen x : Int)) ∧ w' = w := by
  have h2 := len_two ⟨x, hx⟩
  dsimp only at h2
  by_cases h : 256 ≤ x
  · have hs : (x : Int) / 256 < (Lib.len8tab.size : Int) := by rw [len_size]; omega
    have hx2 : x / 256 < Lib.len8tab.size := by rw [len_size]; omega
    have ht : (Lib.len8tab[x / 256]'hx2).toNat = Lib.bitLen (x / 256) := len_tab ⟨x / 256, by omega⟩
    have hb : Lib.bitLen x = 8 + Lib.bitLen (x / 256) := by omega
    have h9 : Lib.bitLen (x / 256) ≤ 9 := (t_great ⟨x / 256, by omega⟩).2.2.2.1
    have HT := Lib.hid ht
    have HB := Lib.hid hb
    have H9 := Lib.hid h9
    clear ht hb h9 h2
    go_enter Tryz.func97, Tryz.ntmps97
    go_wp2
    go_ret
    refine ⟨congrArg Ending.returned (congrArg (Value.int IntKind.i64) ?_), rfl⟩
    have h9 := H9.out
    have e1 : wrap64 ((Lib.bitLen (x / 256) : Nat) : Int) = ((Lib.bitLen (x / 256) : Nat) : Int) := IntWalk.wrap64_in _ (by omega)
    have e2 : wrap64 (8 + ((Lib.bitLen (x / 256) : Nat) : Int)) = 8 + ((Lib.bitLen (x / 256) : Nat) : Int) := IntWalk.wrap64_in _ (by omega)
    rw [HT.out, HB.out, e1, e2]
    omega
  · have hs : (x : Int) < (Lib.len8tab.size : Int) := by rw [len_size]; omega
    have hx2 : x < Lib.len8tab.size := by rw [len_size]; omega
    have ht : (Lib.len8tab[x]'hx2).toNat = Lib.bitLen x := len_tab ⟨x, by omega⟩
    have hb : Lib.bitLen x ≤ 8 := by omega
    have HT := Lib.hid ht
    have HB := Lib.hid hb
    clear ht hb h2
    go_enter Tryz.func97, Tryz.ntmps97
    go_wp2
    go_ret
    refine ⟨congrArg Ending.returned (congrArg (Value.int IntKind.i64) ?_), rfl⟩
    have h9 := HB.out
    have e1 : wrap64 ((Lib.bitLen x : Nat) : Int) = ((Lib.bitLen x : Nat) : Int) := IntWalk.wrap64_in _ (by omega)
    rw [HT.out, e1]
    first | done | exact e1 | omega

theorem greatest_any (x : Nat) (hx : x < 512) (w : World) : Calls Tryz.prog 50 #[.int .u16 (x : Int)] w fun e w' => e = .returned (.int .i64 (Lib.bitLen x : Int)) ∧ w' = w := by
  have H := len16_any x hx
  go_enter Tryz.func50, Tryz.ntmps50
  go_wp2_with (go_at_call 97; refine (H _).mono ?_; rintro e w' ⟨rfl, rfl⟩)
  go_ret
  exact ⟨rfl, rfl⟩
set_option maxRecDepth 100000 in
set_option maxHeartbeats 1000000 in
theorem bestCommon_any {a b : Option Addr} {n m c d : Nat} {l l' : List Int} {w : World} (h : Nums .i64 w a n l) (h' : Nums .i64 w b m l') :
    Calls Tryz.prog 11 #[.slice a n c, .slice b m d] w fun e w' => e = .returned (.int .i64 (best l l' : Int)) ∧ w = w' := by
  have H := Lib.hid (versionsOf_any (c := c) h)
  have H' := Lib.hid (versionsOf_any (c := d) h')
  have HA := word_and (word_lt l) (word_lt l')
  obtain ⟨q, hq⟩ : ∃ q : Nat, (word l &&& word l') = q := ⟨_, rfl⟩
  have HL : Hid (q < 512) := Lib.hid (by rw [← hq]; exact and_w l l')
  have HE : Hid (best l l' = Lib.bitLen q) := Lib.hid (by rw [← hq]; rfl)
  rw [hq] at HA
  clear h h' hq
  go_enter Tryz.func11, Tryz.ntmps11
  go_wp2_with fail
  refine H.out.mono ?_
  rintro e w' ⟨rfl, rfl⟩
  go_wp2_with fail
  refine H'.out.mono ?_
  rintro e w' ⟨rfl, rfl⟩
  go_wp2_with fail
  refine (greatest_any q HL.out _).mono ?_
  rintro e w' ⟨rfl, rfl⟩
  go_wp2_with fail
  go_ret
  exact ⟨by rw [HE.out]; rfl, rfl⟩
end Go.Proofs.YtcmjadfpifpknaaGreat
namespace Go.Proofs.YtcmjadfpifpknaaGreat
open Go.ChangeShapes Go.WideShapes Go.ChangeAt Go.RowKit
set_option linter.unusedVariables false
set_option linter.unusedSimpArgs false

theorem lwTo_len (k j : Nat) : (lwTo k j).length ≤ 9 := by
  unfold lwTo
  refine Nat.le_trans (List.length_filter_le _ _) ?_
  rw [List.length_take]
  exact Nat.min_le_right _ _
theorem lwTo_yes {k j : Nat} (hk : k < 512) (hj : j < 9) (h : decide (((j + 1 : Nat) : Int) ∈ lw k) = true) : lwTo k (j + 1) = lwTo k j ++ [((j + 1 : Nat) : Int)] := by
  have e : lwTo k (j + 1) = _ := t_step ⟨k, hk⟩ ⟨j, hj⟩
  have hm := (lw_mem.1 (of_decide_eq_true h)).2
  rw [show (((j + 1 : Nat) : Int)).toNat - 1 = j by omega] at hm
  rw [e]
  dsimp only
  rw [if_pos hm]
  rfl
theorem lwTo_no {k j : Nat} (hk : k < 512) (hj : j < 9) (h : decide (((j + 1 : Nat) : Int) ∈ lw k) = false) : lwTo k (j + 1) = lwTo k j := by
  have e : lwTo k (j + 1) = _ := t_step ⟨k, hk⟩ ⟨j, hj⟩
  have hm : ¬ k.testBit j = true := fun q => of_decide_eq_false h (lw_mem.2 ⟨by omega, by rw [show (((j + 1 : Nat) : Int)).toNat - 1 = j by omega]; exact q⟩)
  rw [e]
  dsimp only
  rw [if_neg hm]
set_option maxRecDepth 100000 in
set_option maxHeartbeats 2000000 in
theorem list_any {k : Nat} (hk : k < 512) (w : World) :
    Calls Tryz.prog 162 #[.int .u16 (k : Int)] w (Made .i64 3 w.heap.size (lw k) w) := by
  obtain ⟨i0, hi, hz0, hz1, hz2⟩ := info_parts infoIntS
  have HI := Lib.hid (And.intro hi (And.intro hz0 (And.intro hz1 hz2)))
  clear hi hz0 hz1 hz2
  have HG := greatest_any k hk
  have HH := fun n => has_any hk n
  have HT := Lib.hid (t_lwTo ⟨k, hk⟩)
  have h9 : Lib.bitLen k ≤ 9 := (t_great ⟨k, hk⟩).2.2.2.1
  obtain ⟨g, hg⟩ : ∃ g : Nat, Lib.bitLen k = g := ⟨_, rfl⟩
  dsimp only at HT
  rw [hg] at HG HT h9
  clear hg
  have KO := Lib.hid (Own.empty (k := .i64) (t := 3) (w := w) (B := w.heap.size) (Nat.le_refl _))
  unfold Made
  go_enter Tryz.func162, Tryz.ntmps162
  go_wp2_with fail
  go_loopw [3, 4] (fun s v wr => ∃ (a' : Option Addr) (c' n' j : Nat), s = .slice a' n' c' ∧ v = .int .i64 ((j + 1 : Nat) : Int) ∧ j ≤ g ∧ Own .i64 3 wr w.heap.size a' n' c' (lwTo k j) ∧ Below w.heap.size w wr) (fun _ v _ => g + 1 - (intOf v).toNat)
  case atStart => exact ⟨_, _, _, 0, rfl, rfl, Nat.zero_le _, by rw [HT.out.2]; exact KO.out, alloc_same _ _⟩
  case round =>
    obtain ⟨a', c', n', j, rfl, rfl, hj, ho, hb⟩ := hrel
    have HO := Lib.hid ho
    have HB := Lib.hid hb
    have hn9 : n' ≤ 9 := by rw [← ho.len]; exact lwTo_len k j
    clear ho hb
    by_cases hlt : j < g
    · go_wp2_with fail
      refine (HG _).mono ?_
      rintro e w2 ⟨rfl, rfl⟩
      cases hm : decide (((j + 1 : Nat) : Int) ∈ lw k) with
      | true =>
        have HY := Lib.hid (lwTo_yes hk (by omega) hm)
        have HV := Lib.hid (HH ((j + 1 : Nat) : Int))
        rw [hm] at HV
        clear hm
        go_wp2_with fail
        refine (HV.out _).mono ?_
        rintro e w2 ⟨rfl, rfl⟩
        go_wp2_with (at_builtin; refine wpl_app _ rfl (.tmp 15) (.tmp 17) 24 rfl .i64 3 i0 (.int .i64 0) 8 Tryz.underlying24 HI.out.1 HI.out.2.1 HI.out.2.2.1 HI.out.2.2.2 rfl rfl (HO.out.alloc _) rfl (nums_new _ _ _ _) (by omega) ?c6 ?c7 ?_)
        case c6 => omega
        case c7 => have := HB.out.size; simp; omega
        intro a3 c3 w3 ho3 hb3
        have HO3 := Lib.hid ho3
        have HB3 := Lib.hid hb3
        clear ho3 hb3
        go_wp2
        go_roundw
        case rel => exact ⟨a3, c3, _, j + 1, rfl, by go_num, by omega, by rw [HY.out]; exact HO3.out, HB.out.trans (((alloc_same _ _).mono HB.out.size).trans HB3.out)⟩
        case measure => simp [intOf]; omega
      | false =>
        have HY := Lib.hid (lwTo_no hk (by omega) hm)
        have HV := Lib.hid (HH ((j + 1 : Nat) : Int))
        rw [hm] at HV
        clear hm
        go_wp2_with fail
        refine (HV.out _).mono ?_
        rintro e w2 ⟨rfl, rfl⟩
        go_wp2
        go_roundw
        case rel => exact ⟨a', c', n', j + 1, rfl, by go_num, by omega, by rw [HY.out]; exact HO.out, HB.out⟩
        case measure => simp [intOf]; omega
    · obtain rfl : j = g := by omega
      go_wp2_with fail
      refine (HG _).mono ?_
      rintro e w2 ⟨rfl, rfl⟩
      go_wp2
      go_ret
      exact ⟨_, _, _, rfl, by rw [← HT.out.1]; exact HO.out, HB.out⟩
end Go.Proofs.YtcmjadfpifpknaaGreat
