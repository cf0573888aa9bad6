/- The message that is made of a format and a seed, and its bytes, by the program. -/
import Derived.Test.YtjmabidahofbbaaMkI
import Derived.Test.YtjmabidahofbbaaEncI
namespace Go.Proofs.Ytjmabidahofbbaa
open Go.ChangeShapes Go.WideShapes Go.ChangeAt Go.RowKit
set_option linter.unusedVariables false

theorem Vals.begin {w : World} {a : Option Addr} {n j : Nat} {v r : List Vl} (h : Vals w a n (v ++ r)) (hv : v.length = j) : Vals w a j v := by
  refine ⟨hv, ?_, fun q x hq => h.cell q x (by rw [List.getElem?_append_left (lt_of_some hq)]; exact hq)⟩
  have := h.fits
  have := h.len
  rw [List.length_append] at this
  omega
theorem OwnV.slots {tO tI : TypeId} {w : World} {B n c g : Nat} {l : List Vl} (h : OwnV tO tI w B (some ⟨g, 0, none⟩) n c l) {j : Nat} (hj : j < n) : (∃ u0, w.cell? ⟨g, j * 2, none⟩ = some u0) ∧ (∃ u1, w.cell? ⟨g, j * 2 + 1, none⟩ = some u1) ∧ w.frozen? ⟨g, j * 2, none⟩ = false ∧ w.frozen? ⟨g, j * 2 + 1, none⟩ = false := by
  obtain ⟨hs, h1, _⟩ := h
  exact ⟨row_cell h1.2 (by omega), row_cell h1.2 (by omega), h1.2.frozenAt _, h1.2.frozenAt _⟩
theorem okTo_max99 {l : List Fd} {n j : Nat} {x : Fd} (h : okTo l n) (hj : j < n) (hx : l[j]? = some x) : 1 ≤ x.max ∧ x.max ≤ 99 := by
  obtain ⟨h1, h2⟩ := okTo_max h hj hx
  exact ⟨h1, Int.le_trans h2 (mostOf_le _)⟩

set_option maxHeartbeats 8000000 in
set_option maxRecDepth 100000 in
theorem makeMessage_any (a : Option Addr) (n c : Nat) (l : List Fd) (s : Int) (w : World) (h : Fds w a n l) (hfc : n ≤ c ∧ (c : Int) ≤ 9223372036854775807) (hn : n ≤ 1000000000) (hs : Fit64 s) :
    Calls Try.prog 12 #[.slice a n c, .int .i64 s] w (MadeV 73 3 w.heap.size (mkMsg l s) w) := by
  have H := Lib.hid h
  have hl := Lib.hid h.len
  have HS := Lib.hid hs
  have KF := Lib.hid (isFormat_any a n c l w h hfc)
  obtain ⟨i0, hi, hz0, hz1, hz2⟩ := info_parts infoValueS
  have HI := Lib.hid (And.intro hi (And.intro hz0 (And.intro hz1 hz2)))
  clear h hs hi hz0 hz1 hz2
  unfold MadeV
  cases hf : isFmt l with
  | false =>
    have HE := Lib.hid (mkMsg_no s hf)
    rw [hf] at KF
    clear hf
    go_enter Try.func12, Try.ntmps12
    go_wp2_with fail
    refine KF.out.mono ?_
    rintro e w1 ⟨rfl, hb1⟩
    have HB1 := Lib.hid hb1
    clear hb1
    go_wp2_with fail
    go_ret
    exact ⟨_, _, _, rfl, by rw [HE.out]; exact OwnV.empty HB1.out.size, HB1.out.alloc HB1.out.size _⟩
  | true =>
    have hF := isFmt_iff.1 hf
    have hn6 : n ≤ 6 := by have := hF.1; have := hl.out; omega
    have HOK := Lib.hid hF.2
    have HE := Lib.hid (mkMsg_yes s hf)
    rw [hf] at KF
    clear hf hF
    go_enter Try.func12, Try.ntmps12
    go_wp2_with fail
    refine KF.out.mono ?_
    rintro e w1 ⟨rfl, hb1⟩
    have HB1 := Lib.hid hb1
    clear hb1
    go_wp2_with (with_reducible refine wpList_make_full _ rfl (.tmp 13) (.tmp 13) 27 rfl w.heap.size 73 i0 (.agg #[.int .i64 0, .slice none 0 0]) 2 Try.underlying27 HI.out.1 HI.out.2.1 HI.out.2.2.1 .i64 .i64 _ _ n rfl rfl (by omega) (by omega) ?c1 ?c2 ?c3 ?_)
    case c1 => rw [HI.out.2.2.2]; omega
    case c2 => unfold maxLen; omega
    case c3 => exact HB1.out.size
    intro w2 hown hgrow
    have HB2 : Hid (Below w.heap.size w w2) := Lib.hid (HB1.out.grown hgrow HB1.out.size (fun _ e => by cases e))
    have HO2 : Hid (OwnV 73 3 w2 w.heap.size (some ⟨w1.heap.size, 0, none⟩) n n ([] ++ List.replicate (n - 0) ⟨0, []⟩)) := by
      have hm : (madeCells #[.int .i64 0, .slice none 0 0] (n * 2)).toList = flatOf Vh.enc (List.replicate n ⟨0, none, 0, 0⟩) := made2 n
      rw [hm] at hown
      exact Lib.hid (by simpa using OwnV.zeros hown)
    have hlt2 : w1.heap.size < w2.heap.size := (HO2.out.span _ rfl).2
    have hle1 : w.heap.size ≤ w1.heap.size := HB1.out.size
    clear hown hgrow
    go_wp2_with fail
    generalize w1.heap.size = g0 at *
    go_loopw [17] (fun i wr => ∃ j : Nat, i = .int .i64 j ∧ j ≤ n ∧ OwnV 73 3 wr w.heap.size (some ⟨g0, 0, none⟩) n n (mkTo l s j ++ List.replicate (n - j) ⟨0, []⟩) ∧ Below w.heap.size w wr) (fun i _ => n - (intOf i).toNat)
    case atStart => exact ⟨0, rfl, Nat.zero_le _, HO2.out, HB2.out⟩
    case round =>
      obtain ⟨j, rfl, hj, ho, hb⟩ := hrel
      have hvj := mkTo_len l s j
      have HO := Lib.hid ho
      have HB := Lib.hid hb
      clear ho hb
      by_cases hlt : j < n
      · have hltI : (j : Int) < (n : Int) := by omega
        have hlj : j < l.length := by rw [hl.out]; exact hlt
        obtain ⟨bb, o, ⟨xk, xm, xt, xi⟩, rfl, hx, hc0, hc1, hc2, hc3⟩ := fds_at (H.out.same HB.out) hlt
        dsimp only at hc0 hc1 hc2 hc3
        have HXW : Hid (Below wr.heap.size wr (wr.alloc (.cells #[.int .i64 xk, .int .i64 xm, .int .i64 xt, .int .i64 xi] 70))) := Lib.hid (alloc_same _ _)
        have HXH : Hid ((wr.alloc (.cells #[.int .i64 xk, .int .i64 xm, .int .i64 xt, .int .i64 xi] 70)).heap[wr.heap.size]? = some (.cells #[.int .i64 xk, .int .i64 xm, .int .i64 xt, .int .i64 xi] 70 (0, 0))) := Lib.hid (heap_alloc_new wr _)
        have hxs : (wr.alloc (.cells #[.int .i64 xk, .int .i64 xm, .int .i64 xt, .int .i64 xi] 70)).heap.size = wr.heap.size + 1 := by simp
        have HXB := Lib.hid (HB.out.trans (HXW.out.mono HB.out.size))
        have HMAX := Lib.hid (okTo_max99 HOK.out hlj hx)
        have KTJ := isThere_any _ n c l (some ⟨g0, 0, none⟩) j j (mkTo l s j) j _ (H.out.same HXB.out) ((HO.out.same HXW.out).vals.begin hvj) hn (by omega)
        cases ht : isThere l (mkTo l s j) j with
        | false =>
          have HSTEP := Lib.hid (mkTo_no hx ht)
          rw [ht] at KTJ
          clear ht hx
          go_wp2_with fail
          refine KTJ.mono ?_
          rintro e w2 ⟨rfl, hb2⟩
          have HW2 := Lib.hid (HXW.out.trans (hb2.mono HXW.out.size))
          have HB2 := Lib.hid (HB.out.trans (HW2.out.mono HB.out.size))
          clear hb2 KTJ hc0 hc1 hc2 hc3
          go_wp2_with fail
          go_roundw
          case rel => exact ⟨j + 1, by go_num, by omega, by rw [HSTEP.out, ← rep_not hlt]; exact HO.out.same HW2.out, HB2.out⟩
          case measure => simp [intOf]; omega
        | true =>
          have HSTEP := Lib.hid (mkTo_yes hx ht)
          rw [ht] at KTJ
          clear ht hx
          go_wp2_with fail
          refine KTJ.mono ?_
          rintro e w2 ⟨rfl, hb2⟩
          have HW2 := Lib.hid (HXW.out.trans (hb2.mono HXW.out.size))
          have HB2 := Lib.hid (HB.out.trans (HW2.out.mono HB.out.size))
          have hx2 : w2.heap[wr.heap.size]? = some (.cells #[.int .i64 xk, .int .i64 xm, .int .i64 xt, .int .i64 xi] 70 (0, 0)) := by rw [hb2.block _ (by omega)]; exact HXH.out
          have HO2 := Lib.hid (HO.out.same HW2.out)
          have x0 := (block_cell hx2 0).trans rfl
          have x1 := (block_cell hx2 1).trans rfl
          have x2 := (block_cell hx2 2).trans rfl
          have x3 := (block_cell hx2 3).trans rfl
          have KM := makeValue_any ⟨xk, xm, xt, xi⟩ s (16 * j) w2 HS.out (by omega) HMAX.out
          unfold Fd.val MkvTold at KM
          clear hb2 KTJ hc0 hc1 hc2 hc3 hx2
          go_wp2_with fail
          clear x0 x1 x2 x3
          refine KM.mono ?_
          rintro e w3 ⟨p, q, d, rfl, ho3, hb3⟩
          have hs3 := hb3.size
          have hs2 := HB2.out.size
          have HB3 := Lib.hid (HB2.out.trans (hb3.mono HB2.out.size))
          have hput := OwnV.put HO2.out hb3 hlt (mkVal ⟨xk, xm, xt, xi⟩ s (16 * j)).num p q d _ (ho3.lower hs2) (fun ad e => (ho3.span ad e).1)
          rw [rep_put hvj hlt] at hput
          have HP := Lib.hid hput
          obtain ⟨⟨u0, hu0⟩, ⟨u1, hu1⟩, hf0, hf1⟩ := (HO2.out.same hb3).slots hlt
          clear hput ho3 hb3 KM
          go_wp2_with fail
          go_roundw
          case rel => exact ⟨j + 1, by go_num, by omega, by rw [HSTEP.out]; exact HP.out.1, grown_to (b := some ⟨g0, 0, none⟩) (m := n) (d := n) HP.out.2 HB3.out (lo := w.heap.size) (hi := g0 + 1) (fun ad e => by cases e; exact ⟨hle1, Nat.lt_succ_self _⟩) (Nat.le_refl _) HB3.out.size⟩
          case measure => simp [intOf]; omega
      · obtain rfl : j = n := by omega
        have HOF := Lib.hid (HO.out)
        rw [Nat.sub_self, List.replicate_zero, List.append_nil] at HOF
        go_wp2_with fail
        go_ret
        exact ⟨_, _, _, rfl, by rw [HE.out, hl.out]; exact HOF.out, HB.out⟩

set_option maxHeartbeats 2000000 in
set_option maxRecDepth 100000 in
theorem makeBytes_any (a : Option Addr) (n c : Nat) (l : List Fd) (s : Int) (w : World) (h : Fds w a n l) (hfc : n ≤ c ∧ (c : Int) ≤ 9223372036854775807) (hn : n ≤ 1000000000) (hs : Fit64 s) :
    Calls Try.prog 13 #[.slice a n c, .int .i64 s] w (Made .i64 3 w.heap.size (encOf l (mkMsg l s)) w) := by
  have H := Lib.hid h
  have KM := Lib.hid (makeMessage_any a n c l s w h hfc hn hs)
  clear h hs
  unfold MadeV at KM
  go_enter Try.func13, Try.ntmps13
  go_wp2_with fail
  refine KM.out.mono ?_
  rintro e w1 ⟨b, m, d, rfl, ho, hb1⟩
  have hm : m ≤ 6 := by have := ho.len; have := (mkMsg_few l s).1; omega
  have HB1 := Lib.hid hb1
  have KE := encodeMessage_any a n c l b m d (mkMsg l s) w1 (H.out.same hb1) ho.vals hfc hn (by omega)
  unfold EncTold at KE
  clear ho hb1 KM
  go_wp2_with fail
  refine KE.mono ?_
  rintro e w2 ⟨b', m', d', rfl, ho2, hb2⟩
  have hs1 := HB1.out.size
  have HO := Lib.hid (ho2.lower hs1)
  have HB2 := Lib.hid (HB1.out.trans (hb2.mono hs1))
  clear ho2 hb2 KE
  go_wp2_with fail
  go_ret
  exact ⟨_, _, _, rfl, HO.out, HB2.out⟩
end Go.Proofs.Ytjmabidahofbbaa
