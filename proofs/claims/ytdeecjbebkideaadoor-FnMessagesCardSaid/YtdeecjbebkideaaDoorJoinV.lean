/- Texts are joined: the program's own function at values. -/
import Derived.Test.YtdeecjbebkideaaDoorMsg
import Derived.Test.YtdeecjbebkideaaDoorLaid
import Derived.Test.YtdeecjbebkideaaDoorItemsA
import Derived.Test.YtdeecjbebkideaaDoorJoinT
import Derived.Test.YtdeecjbebkideaaDoorValX
namespace Go.Proofs.YtdeecjbebkideaaDoor
open Go.ChangeShapes Go.WideShapes Go.ChangeAt Go.RowKit Go.Lib
set_option linter.unusedVariables false

set_option maxHeartbeats 1000000 in
set_option maxRecDepth 100000 in
theorem joinV_any (a : Option Addr) (n c : Nat) (l : List Vl) (sep : List UInt8) (w : World) (h : Vals w a n l) (hok : ∀ x ∈ l, x.ok ∧ x.items.length ≤ 100000000) (h1 : 1 ≤ n) (hn : n ≤ 100000000) (hlen : (Lib.join (l.map valText) sep).length ≤ 140737488355328) (ht : Pow10 w) :
    Calls Tryd.prog 46 #[.slice a n c, .string ⟨sep.toArray⟩, .func (.func 47) #[] #[]] w (Told (.string ⟨(Lib.join (l.map valText) sep).toArray⟩) w) := by
  have H := Lib.hid h
  have hl := Lib.hid h.len
  have HT := Lib.hid ht
  have HOK := Lib.hid hok
  have HLEN := Lib.hid hlen
  clear h ht hok hlen
  obtain ⟨i0, hi, hz0, hz1, hz2⟩ := info_parts infoStrS
  have HI := Lib.hid (And.intro hi (And.intro hz0 (And.intro hz1 hz2)))
  clear hi hz0 hz1 hz2
  go_enter Tryd.func46, Tryd.ntmps46
  go_wp2_with (with_reducible refine wpList_make_own _ rfl (.const (.int .i64 0)) (.tmp 11) 96 rfl w.heap.size 9 i0 (.string ⟨#[]⟩) 1 Tryd.underlying96 HI.out.1 HI.out.2.1 HI.out.2.2.1 .i64 .i64 _ n rfl rfl rfl ?c1 ?c2 ?c3 ?_)
  case c1 => rw [HI.out.2.2.2]; omega
  case c2 => unfold maxLen; omega
  case c3 => exact Nat.le_refl _
  intro w2 hown hgrow
  have HB2 : Hid (Below w.heap.size w w2) := Lib.hid ((Below.refl _ w).grown hgrow (Nat.le_refl _) (fun _ e => by cases e))
  have HO2 : Hid (OwnI strEnc 1 9 w2 w.heap.size (some ⟨w.heap.size, 0, none⟩) 0 n []) := Lib.hid ⟨rfl, hown⟩
  clear hown hgrow
  go_wp2_with fail
  go_loopw [7, 15] (fun s i wr => ∃ (j : Nat) (a' : Option Addr) (c' : Nat), j ≤ n ∧ i = .int .i64 j ∧ s = .slice a' j c' ∧ OwnI strEnc 1 9 wr w.heap.size a' j c' (bsOf ((l.map valText).take j)) ∧ Below w.heap.size w wr) (fun _ i _ => n - (intOf i).toNat)
  case atStart => exact ⟨0, _, n, Nat.zero_le _, rfl, rfl, by simpa [bsOf] using HO2.out, HB2.out⟩
  case round =>
    obtain ⟨j, a', c', hj, rfl, rfl, ho, hb⟩ := hrel
    have HO := Lib.hid ho
    have HB := Lib.hid hb
    clear ho hb
    by_cases hlt : j < n
    · obtain ⟨b, o, p, q, d, k, y, rfl, hx, hc0, hc1, hN, hr⟩ := (H.out.same HB.out).at_ hlt
      have HX := Lib.hid (bsOf_step (ts := l.map valText) (j := j) (t := valText ⟨k, y⟩) (by rw [List.getElem?_map, hx]; rfl))
      have hok2 := HOK.out _ (List.mem_of_getElem? hx)
      have HW : Hid (Below wr.heap.size wr (wr.alloc (.cells #[.int .i64 k, .slice p q d] 41))) := Lib.hid (alloc_same wr _)
      have HFT : Hid (∀ w0, Below wr.heap.size wr w0 → Calls Tryd.prog 47 #[.agg #[.int .i64 k, .slice p q d]] w0 (Told (.string ⟨(valText ⟨k, y⟩).toArray⟩) w0)) := Lib.hid fun w0 hb0 => valueText_any k p q d y w0 (hN.same hb0) hok2.1 hok2.2 (pow_stays HT.out (HB.out.trans (hb0.mono HB.out.size)) (Nat.le_refl _))
      clear hok2 hN
      obtain ⟨s1, e1⟩ : ∃ s : ByteArray, s = ⟨(valText ⟨k, y⟩).toArray⟩ := ⟨_, rfl⟩
      rw [← e1] at HFT HX
      clear hx e1
      go_wp2_with fail
      refine (HFT.out _ HW.out).mono ?_
      rintro e w3 ⟨rfl, hb3⟩
      have HB3 : Hid (Below w.heap.size w w3) := Lib.hid ((HB.out.trans (HW.out.mono HB.out.size)).trans (hb3.mono (Nat.le_trans HB.out.size HW.out.size)))
      have HO3 := Lib.hid ((HO.out.alloc _).same hb3)
      clear hb3 hc0 hc1
      have HN := Lib.hid (items_new strEnc_len w3 s1 9)
      go_wp2_with (at_builtin; refine wpl_appI _ strEnc_len (by omega) strEnc_one rfl (.tmp 19) (.tmp 23) 96 rfl 9 i0 (.string ⟨#[]⟩) 16 Tryd.underlying96 HI.out.1 HI.out.2.1 HI.out.2.2.1 HI.out.2.2.2 rfl rfl (HO3.out.alloc _) rfl HN.out (by omega) ?c4 ?c5 ?_)
      case c4 => omega
      case c5 => have := HB3.out.size; simp; omega
      intro a4 c4 w4 ho4 hb4
      have HO4 := Lib.hid ho4
      have HB4 := Lib.hid ((HB3.out.alloc HB3.out.size _).trans hb4)
      clear ho4 hb4
      go_wp2_with fail
      go_roundw
      case rel => exact ⟨j + 1, a4, c4, by omega, by go_num, rfl, by rw [HX.out]; exact HO4.out, HB4.out⟩
      case measure => simp [intOf]; omega
    · obtain rfl : j = n := by omega
      have h2 := HO.out
      rw [List.take_of_length_le (by rw [List.length_map, hl.out]; omega)] at h2
      obtain ⟨g, rfl, hg1, hg2⟩ := h2.head (by omega)
      have hit := h2.items strEnc_len
      have hroom := h2.room
      have hln : (bsOf (l.map valText)).length = j := h2.len
      have hjo := Tryd.strings_Join g 0 c' (bsOf (l.map valText)) ⟨sep.toArray⟩ wr (fun j x hx => by
        obtain ⟨b, o, e, hcl⟩ := hit.cell j x hx
        cases e
        have := hcl 0 _ rfl
        simpa using this) hg2 (by omega) (by omega) (by
          rw [bsOf_data]
          exact HLEN.out)
      rw [hln, bsOf_data] at hjo
      have HJ := Lib.hid hjo
      clear h2 hit hjo
      go_wp2_with fail
      refine HJ.out.mono ?_
      rintro e w5 ⟨rfl, hb5⟩
      have HB5 := Lib.hid (HB.out.trans (hb5.mono HB.out.size))
      clear hb5
      go_wp2
      go_ret
      exact ⟨rfl, HB5.out⟩
end Go.Proofs.YtdeecjbebkideaaDoor
