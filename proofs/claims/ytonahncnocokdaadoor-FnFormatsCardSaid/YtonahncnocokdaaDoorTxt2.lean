/- The text of a format, by the program. -/
import Derived.Test.YtonahncnocokdaaDoorTxt1
import Derived.Test.YtonahncnocokdaaDoorItemsA
namespace Go.Proofs.YtonahncnocokdaaDoor
open Go.ChangeShapes Go.WideShapes Go.ChangeAt Go.RowKit Go.Lib
set_option linter.unusedVariables false

theorem infoStrS : (Tryd.prog.info? 9).map (fun i => (i.zero, i.size, i.bytes)) = some (some (.string ⟨#[]⟩), 1, 16) := by kernel_rfl
/-- The fields' texts, as strings. -/
def texts (l : List Fd) : List ByteArray := l.map fun x => ⟨(fdText x).toArray⟩
theorem texts_data (l : List Fd) : (texts l).map (·.data.toList) = l.map fdText := by
  unfold texts
  rw [List.map_map]
  rfl
theorem texts_step {l : List Fd} {j : Nat} {x : Fd} (h : l[j]? = some x) : texts (l.take (j + 1)) = texts (l.take j) ++ [⟨(fdText x).toArray⟩] := by
  unfold texts
  rw [List.take_add_one, h]
  simp

set_option maxHeartbeats 1000000 in
set_option maxRecDepth 100000 in
theorem formatText_yes (a : Option Addr) (n c : Nat) (l : List Fd) (w : World) (h : Fds w a n l) (hc : n ≤ c ∧ (c : Int) ≤ 9223372036854775807) (ht : Pow10 w) (hf : isFmt l = true) :
    Calls Tryd.prog 10 #[.slice a n c] w (Told (.string ⟨(textTo l).toArray⟩) w) := by
  have H := Lib.hid h
  have hl := Lib.hid h.len
  have HT := Lib.hid ht
  have hF := isFmt_iff.1 hf
  have hn6 : 1 ≤ n ∧ n ≤ 6 := by have := hF.1; have := h.len; omega
  have HOK := Lib.hid hF.2
  have hisf := isFormat_any a n c l w h hc
  rw [hf] at hisf
  have HIS := Lib.hid hisf
  clear h ht hf hF hisf
  obtain ⟨i0, hi, hz0, hz1, hz2⟩ := info_parts infoStrS
  have HI := Lib.hid (And.intro hi (And.intro hz0 (And.intro hz1 hz2)))
  clear hi hz0 hz1 hz2
  go_enter Tryd.func10, Tryd.ntmps10
  go_wp2_with fail
  refine HIS.out.mono ?_
  rintro e w1 ⟨rfl, hb1⟩
  have HB1 := Lib.hid hb1
  clear hb1
  go_wp2_with (with_reducible refine wpList_make_own _ rfl (.const (.int .i64 0)) (.tmp 10) 51 rfl w.heap.size 9 i0 (.string ⟨#[]⟩) 1 Tryd.underlying51 HI.out.1 HI.out.2.1 HI.out.2.2.1 .i64 .i64 _ n rfl rfl rfl ?c1 ?c2 ?c3 ?_)
  case c1 => rw [HI.out.2.2.2]; omega
  case c2 => unfold maxLen; omega
  case c3 => exact HB1.out.size
  intro w2 hown hgrow
  have HB2 : Hid (Below w.heap.size w w2) := Lib.hid (HB1.out.grown hgrow HB1.out.size (fun _ e => by cases e))
  have HO2 : Hid (OwnI strEnc 1 9 w2 w.heap.size (some ⟨w1.heap.size, 0, none⟩) 0 n []) := Lib.hid ⟨rfl, hown⟩
  clear hown hgrow
  go_wp2_with fail
  go_loopw [3, 14] (fun s i wr => ∃ (j : Nat) (a' : Option Addr) (c' : Nat), j ≤ n ∧ i = .int .i64 j ∧ s = .slice a' j c' ∧ OwnI strEnc 1 9 wr w.heap.size a' j c' (texts (l.take j)) ∧ Below w.heap.size w wr) (fun _ i _ => n - (intOf i).toNat)
  case atStart => exact ⟨0, _, n, Nat.zero_le _, rfl, rfl, by simpa [texts] using HO2.out, HB2.out⟩
  case round =>
    obtain ⟨j, a', c', hj, rfl, rfl, ho, hb⟩ := hrel
    have HO := Lib.hid ho
    have HB := Lib.hid hb
    clear ho hb
    by_cases hlt : j < n
    · obtain ⟨b, o, ⟨xk, xm, xt, xi⟩, rfl, hx, hc0, hc1, hc2, hc3⟩ := fds_at (H.out.same HB.out) hlt
      have hsm : Small ⟨xk, xm, xt, xi⟩ := small_of (l := l) (j := j) (fun i y hi hy => HOK.out i y (by have := hl.out; omega) hy) (by omega) hx
      have HX := Lib.hid (texts_step hx)
      dsimp only at hc0 hc1 hc2 hc3
      have HFT : Hid (∀ w0, Below w.heap.size w w0 → Calls Tryd.prog 24 #[.agg #[.int .i64 xk, .int .i64 xm, .int .i64 xt, .int .i64 xi]] w0 (Told (.string ⟨(fdText ⟨xk, xm, xt, xi⟩).toArray⟩) w0)) := Lib.hid fun w0 hb0 => fieldText_any ⟨xk, xm, xt, xi⟩ w0 hsm (pow_stays HT.out hb0 (Nat.le_refl _))
      obtain ⟨s1, e1⟩ : ∃ s : ByteArray, s = ⟨(fdText ⟨xk, xm, xt, xi⟩).toArray⟩ := ⟨_, rfl⟩
      rw [← e1] at HFT HX
      clear hx hsm e1
      go_wp2_with fail
      refine (HFT.out _ (HB.out.alloc HB.out.size _)).mono ?_
      rintro e w3 ⟨rfl, hb3⟩
      have HB3 : Hid (Below w.heap.size w w3) := Lib.hid ((HB.out.alloc HB.out.size _).trans (hb3.mono (by simp; have := HB.out.size; omega)))
      have HO3 := Lib.hid ((HO.out.alloc _).same hb3)
      clear hb3 hc0 hc1 hc2 hc3
      have HN := Lib.hid (items_new strEnc_len w3 s1 9)
      go_wp2_with (at_builtin; refine wpl_appI _ strEnc_len (by omega) strEnc_one rfl (.tmp 18) (.tmp 21) 51 rfl 9 i0 (.string ⟨#[]⟩) 16 Tryd.underlying51 HI.out.1 HI.out.2.1 HI.out.2.2.1 HI.out.2.2.2 rfl rfl (HO3.out.alloc _) rfl HN.out (by omega) ?c4 ?c5 ?_)
      case c4 => omega
      case c5 => have := HB3.out.size; simp; omega
      intro a4 c4 w4 ho4 hb4
      have HO4 := Lib.hid ho4
      have HB4 := Lib.hid ((HB3.out.alloc HB3.out.size _).trans hb4)
      clear ho4 hb4
      go_wp2
      go_roundw
      case rel => exact ⟨j + 1, a4, c4, by omega, by go_num, rfl, by rw [HX.out]; exact HO4.out, HB4.out⟩
      case measure => simp [intOf]; omega
    · obtain rfl : j = n := by omega
      have h1 := HO.out
      rw [List.take_of_length_le (by have := hl.out; omega)] at h1
      obtain ⟨g, rfl, hg1, hg2⟩ := h1.head (by omega)
      have hit := h1.items strEnc_len
      have hroom := h1.room
      have hlen : (texts l).length = j := h1.len
      have htl := textTo_len (l := l) (by have := hl.out; omega) HOK.out l.length (Nat.le_refl _)
      rw [List.take_of_length_le (Nat.le_refl _), hl.out] at htl
      have hjo := Tryd.strings_Join g 0 c' (texts l) ⟨#[32]⟩ wr (fun j x hx => by
        obtain ⟨b, o, e, hcl⟩ := hit.cell j x hx
        cases e
        have := hcl 0 _ rfl
        simpa using this) hg2 (by omega) (by omega) (by
          rw [texts_data]
          show (textTo l).length ≤ _
          omega)
      rw [hlen, texts_data] at hjo
      have HJ := Lib.hid hjo
      clear h1 hit hjo htl
      go_wp2_with fail
      refine HJ.out.mono ?_
      rintro e w5 ⟨rfl, hb5⟩
      have HB5 := Lib.hid (HB.out.trans (hb5.mono HB.out.size))
      clear hb5
      go_wp2
      go_ret
      exact ⟨rfl, HB5.out⟩
set_option maxRecDepth 100000 in
theorem formatText_any (a : Option Addr) (n c : Nat) (l : List Fd) (w : World) (h : Fds w a n l) (hc : n ≤ c ∧ (c : Int) ≤ 9223372036854775807) (ht : Pow10 w) :
    Calls Tryd.prog 10 #[.slice a n c] w (Told (.string ⟨(fmtText l).toArray⟩) w) := by
  cases hf : isFmt l with
  | true =>
    rw [show fmtText l = textTo l by unfold fmtText; rw [if_pos hf]]
    exact formatText_yes a n c l w h hc ht hf
  | false =>
    rw [show fmtText l = [] by unfold fmtText; rw [if_neg (by rw [hf]; decide)]]
    have hisf := isFormat_any a n c l w h hc
    rw [hf] at hisf
    have HIS := Lib.hid hisf
    clear h ht hf hisf
    go_enter Tryd.func10, Tryd.ntmps10
    go_wp2_with fail
    refine HIS.out.mono ?_
    rintro e w1 ⟨rfl, hb1⟩
    have HB1 := Lib.hid hb1
    clear hb1
    go_wp2
    go_ret
    exact ⟨rfl, HB1.out⟩
end Go.Proofs.YtonahncnocokdaaDoor
