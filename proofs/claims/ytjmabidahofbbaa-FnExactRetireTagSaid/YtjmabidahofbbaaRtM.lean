/- Tags retired: by the model. -/
import Derived.Test.YtjmabidahofbbaaRt
namespace Go.Proofs.Ytjmabidahofbbaa
open Go.ChangeShapes Go.WideShapes Go.ChangeAt Go.RowKit Go.Sort
set_option linter.unusedVariables false

set_option maxHeartbeats 2000000 in
set_option maxRecDepth 100000 in
theorem specRetireTag_any {a : Option Addr} {n c : Nat} {l : List En} {w : World} (t : Int) (h : Ens w a n l) (hn : n ≤ 1048576000) :
    Calls Try.prog 45 #[.slice a n c, .int .i64 t] w (fun e w' => ∃ b m d, e = .returned (.tuple #[.slice b m d, .bool (retOk l t)]) ∧ OwnN 51 w' w.heap.size b m d (retL l t) ∧ Below w.heap.size w w') := by
  have H := Lib.hid h
  have HL := Lib.hid h.len
  clear h
  obtain ⟨i0, hi, hz0, hz1, hz2⟩ := info_parts infoEntryS
  have HI := Lib.hid (And.intro hi (And.intro hz0 (And.intro hz1 hz2)))
  clear hi hz0 hz1 hz2
  obtain ⟨r, hr⟩ : ∃ r, isReg l = r := ⟨_, rfl⟩
  have HR := Lib.hid hr
  clear hr
  go_enter Try.func45, Try.ntmps45
  go_wp2_with (at_builtin; refine wpl_app_some _ rfl (.tmp 8) (.tmp 9) 38 rfl 51 i0 (.agg #[.int .i64 0, .int .i64 0, .bool false]) 24 Try.underlying38 HI.out.1 HI.out.2.1 HI.out.2.2.1 HI.out.2.2.2 rfl rfl (ens_empty _ 51 (Nat.le_refl _)) rfl (H.out.same (alloc_same w _)) (by omega) ?c1 ?c2 ?_)
  case c1 => omega
  case c2 => simp
  intro g d w1 ho hb
  have HO1 : Hid (OwnN 51 w1 w.heap.size (some ⟨g, 0, none⟩) n d l) := Lib.hid (by simpa using ho)
  have HB1 : Hid (Below w.heap.size w w1) := Lib.hid ((alloc_same w _).trans hb)
  clear ho hb
  go_wp2_with fail
  go_loopw [7] (fun i wr => ∃ j : Nat, j ≤ n ∧ i = .int .i64 j ∧ Hid (OwnN 51 wr w.heap.size (some ⟨g, 0, none⟩) n d l) ∧ Hid (Below w.heap.size w wr) ∧ Hid (∀ (p : Nat) (y : En), l[p]? = some y → p < j → ¬ (y.tag = t ∧ y.old = false))) (fun i _ => n - (intOf i).toNat)
  case atStart => exact ⟨0, Nat.zero_le _, rfl, HO1, HB1, fun p y _ hp => absurd hp (Nat.not_lt_zero _)⟩
  case round =>
    clear HO1 HB1
    obtain ⟨j, hj, rfl, HO1, HB1, HN⟩ := hrel
    by_cases hlt : j < n
    · have hreg := specIsRegistry_any (c := c) (H.out.same HB1.out)
      rw [HR.out] at hreg
      go_wp2_with fail
      refine hreg.mono ?_
      rintro e w2 ⟨rfl, hb⟩
      have HO2 : Hid (OwnN 51 w2 w.heap.size (some ⟨g, 0, none⟩) n d l) := Lib.hid (HO1.out.same hb)
      have HB2 : Hid (Below w.heap.size w w2) := Lib.hid (HB1.out.trans (hb.mono HB1.out.size))
      clear hb hreg HO1 HB1
      cases r with
      | false =>
        obtain ⟨q1, q2⟩ := ret_not (t := t) HR.out
        have HQ := Lib.hid (And.intro q1 q2)
        clear q1 q2
        go_wp2
        go_ret2
        first
          | (refine ⟨some ⟨g, 0, none⟩, n, d, by rw [HQ.out.2]; rfl, ?_, HB2.out⟩
             rw [HQ.out.1]; exact HO2.out)
          | (rw [HQ.out.1, HQ.out.2]; exact ⟨_, _, _, rfl, HO2.out, HB2.out⟩)
      | true =>
        obtain ⟨b, o, x, rfl, hx, hc0, hc1, hc2⟩ := ens_at (H.out.same HB2.out) hlt
        have HX := Lib.hid hx
        clear hx
        by_cases ht : x.tag = t
        · have hte : (x.tag == t) = true := by simp [ht]
          have HT := Lib.hid ht
          clear ht
          cases hold : x.old with
          | true =>
            rw [hold] at hc2
            have HOLD := Lib.hid hold
            clear hold
            go_wp2
            go_roundw
            case rel =>
              refine ⟨j + 1, by omega, by go_num, HO2, HB2, (show Hid _ from ?_)⟩
              show ∀ (p : Nat) (y : En), _
              intro p y hy hp hc
              by_cases e : p = j
              · subst e
                have h0 := HX.out
                rw [hy] at h0
                cases h0
                rw [HOLD.out] at hc
                exact absurd hc.2 (by simp)
              · exact HN.out p y hy (by omega) hc
            case measure => simp [intOf]; omega
          | false =>
            rw [hold] at hc2
            obtain ⟨q1, q2⟩ := ret_some HR.out (hit_some HX.out HT.out hold HN.out)
            have HQ := Lib.hid (And.intro q1 q2)
            clear q1 q2 hold
            obtain ⟨bq, oq, yq, eb, hy, hd0, hd1, hd2⟩ := ens_at (HO2.out.items En.enc_len) hlt
            cases eb
            rw [Nat.zero_add] at hd2
            have hf := HO2.out.row.frozenAt (j * 3 + 2)
            have hs := own_old HO2.out HX.out
            have hsp := HO2.out.span
            have HW : Hid (OwnN 51 (w2.setCell ⟨g, j * 3 + 2, none⟩ (.bool true)) w.heap.size (some ⟨g, 0, none⟩) n d (l.modify j fun x => ⟨x.tag, x.vend, true⟩) ∧ Below w.heap.size w (w2.setCell ⟨g, j * 3 + 2, none⟩ (.bool true))) :=
              Lib.hid ⟨hs.1, grown_to (b := some ⟨g, 0, none⟩) (m := n) (d := d) hs.2 HB2.out hsp (Nat.le_refl _) HB2.out.size⟩
            clear hs hsp hy hd0 hd1
            go_wp2
            go_ret2
            first
              | (refine ⟨some ⟨g, 0, none⟩, n, d, by rw [HQ.out.2]; rfl, ?_, HW.out.2⟩
                 rw [HQ.out.1]; exact HW.out.1)
              | (rw [HQ.out.1, HQ.out.2]; exact ⟨_, _, _, rfl, HW.out.1, HW.out.2⟩)
        · have hte : (x.tag == t) = false := by simp [ht]
          have HT := Lib.hid ht
          clear ht
          go_wp2
          go_roundw
          case rel =>
            refine ⟨j + 1, by omega, by go_num, HO2, HB2, (show Hid _ from ?_)⟩
            show ∀ (p : Nat) (y : En), _
            intro p y hy hp hc
            by_cases e : p = j
            · subst e
              have h0 := HX.out
              rw [hy] at h0
              cases h0
              exact HT.out hc.1
            · exact HN.out p y hy (by omega) hc
          case measure => simp [intOf]; omega
    · obtain rfl : j = n := by omega
      obtain ⟨q1, q2⟩ := ret_none (l := l) (t := t) (hit_none fun p y hy => HN.out p y hy (by have h1 := lt_of_get hy; have h2 := HL.out; omega))
      have HQ := Lib.hid (And.intro q1 q2)
      clear q1 q2
      go_wp2
      go_ret2
      first
        | (refine ⟨some ⟨g, 0, none⟩, _, d, by rw [HQ.out.2]; rfl, ?_, HB1.out⟩
           rw [HQ.out.1]; exact HO1.out)
        | (rw [HQ.out.1, HQ.out.2]; exact ⟨_, _, _, rfl, HO1.out, HB1.out⟩)
end Go.Proofs.Ytjmabidahofbbaa
