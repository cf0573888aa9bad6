/- Registries, owners and live tags: by the model. -/
import Derived.Test.YtjmabidahofbbaaRg
import Derived.Test.YtjmabidahofbbaaMem
import Derived.Deep.QuietTactic
import Derived.BigQuiet
namespace Go.Proofs.Ytjmabidahofbbaa
open Go.ChangeShapes Go.WideShapes Go.ChangeAt Go.RowKit
set_option linter.unusedVariables false

/-- The owner of a tag: the vendor of the first entry with it, or -1. -/
def ownOf (l : List En) (t : Int) : Int := match l.find? (fun x => x.tag == t) with
  | some x => x.vend
  | none => -1
/-- The same, from a list on. -/
def liveOf (l : List En) : List Int := (l.filter fun x => !x.old).map En.tag
theorem liveOf_step {l : List En} {j : Nat} {x : En} (h : l[j]? = some x) : liveOf (l.take (j + 1)) = if x.old then liveOf (l.take j) else liveOf (l.take j) ++ [x.tag] := by
  unfold liveOf
  rw [List.take_add_one, h, List.filter_append, List.map_append]
  cases e : x.old <;> simp [e]
theorem liveOf_len (l : List En) : (liveOf l).length ≤ l.length := by
  unfold liveOf
  rw [List.length_map]
  exact List.length_filter_le _ _
theorem told_eq {P : Program} {f : FuncId} {args : Array Value} {w : World} {v : Value} (h : Calls P f args w fun e w' => e = .returned v ∧ w' = w) : Calls P f args w (Told v w) := h.mono fun _ _ ⟨he, hw⟩ => ⟨he, hw ▸ Below.refl _ _⟩
theorem drop_cons {l : List En} {j : Nat} {x : En} (hx : l[j]? = some x) : l.drop j = x :: l.drop (j + 1) := by
  have hjl : j < l.length := by
    rcases Nat.lt_or_ge j l.length with h | h
    · exact h
    · rw [List.getElem?_eq_none h] at hx; cases hx
  rw [List.drop_eq_getElem_cons hjl]
  rw [List.getElem?_eq_getElem hjl] at hx
  rw [Option.some.inj hx]
theorem ownOf_cons (x : En) (l : List En) (t : Int) : ownOf (x :: l) t = if x.tag = t then x.vend else ownOf l t := by
  unfold ownOf
  rw [List.find?_cons]
  by_cases h : x.tag = t
  · rw [if_pos h]; simp [h]
  · rw [if_neg h]
    have : (x.tag == t) = false := by simp [h]
    rw [this]

set_option maxHeartbeats 1000000 in
set_option maxRecDepth 100000 in
theorem specOwnerOf_any {a : Option Addr} {n c : Nat} {l : List En} {w : World} (t : Int) (h : Ens w a n l) :
    Calls Try.prog 39 #[.slice a n c, .int .i64 t] w (fun e w' => e = .returned (.int .i64 (ownOf l t)) ∧ w' = w) := by
  have hn := h.fits
  have H := Lib.hid h
  have HL := Lib.hid h.len
  clear h
  go_enter Try.func39, Try.ntmps39
  go_wp2
  go_loop [5] (fun i => ∃ j : Nat, j ≤ n ∧ i = .int .i64 j ∧ Hid (ownOf (l.drop j) t = ownOf l t)) (fun i => n - (intOf i).toNat)
  case atStart => exact ⟨0, Nat.zero_le _, rfl, rfl⟩
  case round =>
    obtain ⟨j, hj, rfl, HQ⟩ := hrel
    by_cases hlt : j < n
    · obtain ⟨b, o, x, rfl, hx, hc0, hc1, hc2⟩ := ens_at H.out hlt
      have HD := Lib.hid (drop_cons hx)
      clear hx
      by_cases ht : x.tag = t
      · subst ht
        have HV : Hid (x.vend = ownOf l x.tag) := by
          have := HQ.out
          rw [HD.out, ownOf_cons, if_pos rfl] at this
          exact this
        go_wp2
        go_ret
        exact ⟨by rw [← HV.out]; rfl, rfl⟩
      · have hne : (x.tag == t) = false := by simp [ht]
        go_wp2
        go_round
        case rel =>
          refine ⟨j + 1, by omega, by go_num, ?_⟩
          have := HQ.out
          rw [HD.out, ownOf_cons, if_neg ht] at this
          exact this
        case measure => simp [intOf]; omega
    · obtain rfl : j = n := by omega
      have HE : Hid ((-1 : Int) = ownOf l t) := by
        have := HQ.out
        rw [List.drop_eq_nil_of_le (by rw [HL.out]; exact Nat.le_refl _)] at this
        exact this
      go_wp2
      go_ret
      exact ⟨by rw [← HE.out]; rfl, rfl⟩

theorem regFrom_cons {least : Int} {x : En} {l : List En} : regFrom least (x :: l) = (inB x.tag least 255 && !resv x.tag && inB x.vend 0 9 && regFrom (x.tag + 1) l) := rfl
theorem inB_split {t p : Int} (hp : -1 ≤ p) : inB t (p + 1) 255 = (inB t 0 255 && decide (p < t)) := by
  unfold inB
  by_cases h1 : p + 1 ≤ t ∧ t ≤ 255
  · rw [decide_eq_true h1, decide_eq_true (by omega), decide_eq_true (by omega)]; rfl
  · rw [decide_eq_false h1]
    by_cases h2 : 0 ≤ t ∧ t ≤ 255
    · rw [decide_eq_true h2, decide_eq_false (by omega)]; rfl
    · rw [decide_eq_false h2]; rfl
theorem Calls.quiet_of {P : Program} {f : FuncId} {args : Array Value} {w : World} {n : Nat} {v : Value} (h : Calls P f args (w.drewN n) fun e w' => e = .returned v ∧ w' = w.drewN n) : Calls P f args (w.drewN n) fun e w' => e = .returned v ∧ ∃ m, w' = w.drewN m :=
  h.mono fun _ _ ⟨he, hw⟩ => ⟨he, n, hw⟩
set_option maxHeartbeats 4000000 in
set_option maxRecDepth 100000 in
theorem specIsRegistry_any {a : Option Addr} {n c : Nat} {l : List En} {w : World} (h : Ens w a n l) :
    Calls Try.prog 76 #[.slice a n c] w (Told (.bool (isReg l)) w) := by
  have hn := h.fits
  have H := Lib.hid h
  have HL := Lib.hid h.len
  clear h
  have mixed : Try.prog.follows .mixedOrders = true := by rfl
  go_enter Try.func76, Try.ntmps76
  go_wp2
  go_loopw [3] (fun i wr => ∃ (j : Nat), j ≤ n ∧ i = .int .i64 j ∧ Hid (∃ p : Int, -1 ≤ p ∧ p ≤ 255 ∧ (j = 0 → p = -1) ∧ (∀ i y, j = i + 1 → l[i]? = some y → p = y.tag) ∧ regFrom (p + 1) (l.drop j) = regFrom 0 l) ∧ Hid (Below w.heap.size w wr)) (fun i _ => n - (intOf i).toNat)
  case atStart => exact ⟨0, Nat.zero_le _, rfl, ⟨-1, by omega, by omega, fun _ => rfl, fun i y e => by omega, rfl⟩, Below.refl _ _⟩
  case round =>
    obtain ⟨j, hj, rfl, HQ, HB⟩ := hrel
    by_cases hlt : j < n
    · obtain ⟨b, o, x, rfl, hx, hc0, hc1, hc2⟩ := ens_at (H.out.same HB.out) hlt
      have HX := Lib.hid hx
      obtain ⟨p, hp1, hp2, hp3, hp4, hpr⟩ := HQ.out
      rw [drop_cons hx, regFrom_cons, inB_split hp1] at hpr
      have h1 := l1R_b x.tag 0 255
      have h2 := specIsReserved_any x.tag
      have h3 := l1R_b x.vend 0 9
      have hone : inB x.tag 0 255 = true → 0 ≤ x.tag ∧ x.tag ≤ 255 := fun e => inB_iff.1 e
      clear hx HQ
      cases e1 : inB x.tag 0 255 with
      | false =>
        rw [e1] at h1
        have he : false = isReg l := by
          have hq : regFrom 0 l = false := by
            rw [← hpr]; simp [e1]
          unfold isReg; rw [hq]; simp
        have HE : Hid (false = isReg l) := he
        clear he
        clear hpr hone
        go_wp2_with fail
        go_quiet (first | (go_at_call 58; first | (with_reducible exact Calls.quiet_of (h1 _)) | (with_reducible exact Calls.quiet_of (h3 _))) | (go_at_call 77; exact Calls.quiet_of (h2 _)))
        go_wp2
        go_ret
        exact ⟨by rw [← HE.out]; rfl, HB.out.trans (drewN_same _ _ |>.mono HB.out.size)⟩
      | true =>
        have hb := hone e1
        cases e2 : resv x.tag with
        | true =>
          rw [e1] at h1
          rw [e2] at h2
          have he : false = isReg l := by
            have hq : regFrom 0 l = false := by
              rw [← hpr]; simp [e2]
            unfold isReg; rw [hq]; simp
          have HE : Hid (false = isReg l) := he
          clear he
          clear hpr hone
          go_wp2_with fail
          go_quiet (first | (go_at_call 58; first | (with_reducible exact Calls.quiet_of (h1 _)) | (with_reducible exact Calls.quiet_of (h3 _))) | (go_at_call 77; exact Calls.quiet_of (h2 _)))
          go_wp2
          go_ret
          exact ⟨by rw [← HE.out]; rfl, HB.out.trans (drewN_same _ _ |>.mono HB.out.size)⟩
        | false =>
          cases e3 : inB x.vend 0 9 with
          | false =>
            rw [e1] at h1
            rw [e2] at h2
            rw [e3] at h3
            have he : false = isReg l := by
              have hq : regFrom 0 l = false := by
                rw [← hpr]; simp [e3]
              unfold isReg; rw [hq]; simp
            have HE : Hid (false = isReg l) := he
            clear he
            clear hpr hone
            go_wp2_with fail
            go_quiet (first | (go_at_call 58; first | (with_reducible exact Calls.quiet_of (h1 _)) | (with_reducible exact Calls.quiet_of (h3 _))) | (go_at_call 77; exact Calls.quiet_of (h2 _)))
            go_wp2
            go_ret
            exact ⟨by rw [← HE.out]; rfl, HB.out.trans (drewN_same _ _ |>.mono HB.out.size)⟩
          | true =>
            rw [e1] at h1
            rw [e2] at h2
            rw [e3] at h3
            by_cases hj0 : j = 0
            · have hz : decide (0 < j) = false := decide_eq_false (by omega)
              have hp0 := hp3 hj0
              subst hp0
              have hlt0 : (-1 : Int) < x.tag := by omega
              have he : regFrom (x.tag + 1) (l.drop (j + 1)) = regFrom 0 l := by
                rw [← hpr]; simp [e1, e2, e3, hlt0]
              have HE : Hid _ := he
              have HP : Hid (∀ i2 y2, j + 1 = i2 + 1 → l[i2]? = some y2 → x.tag = y2.tag) := fun i2 y2 e hy2 => by
                obtain rfl : i2 = j := by omega
                have h0 := HX.out
                rw [hy2] at h0
                cases h0
                rfl
              clear he
              have HJ : Hid (j = 0) := hj0
              clear hpr hone e1 e2 e3 hj0 hp3 hp4
              go_wp2_with fail
              go_quiet (first | (go_at_call 58; first | (with_reducible exact Calls.quiet_of (h1 _)) | (with_reducible exact Calls.quiet_of (h3 _))) | (go_at_call 77; exact Calls.quiet_of (h2 _)))
              go_wp2
              go_roundw
              case rel => exact ⟨j + 1, by omega, by go_num, ⟨x.tag, by omega, by omega, fun e => by omega, HP.out, HE.out⟩, HB.out.trans (drewN_same _ _ |>.mono HB.out.size)⟩
              case measure => simp [intOf]; omega
            · obtain ⟨i, rfl⟩ : ∃ i, j = i + 1 := ⟨j - 1, by omega⟩
              have hz : (0 : Int) < (i : Int) + 1 := by omega
              obtain ⟨b2, o2, y, eb, hy, hd0, hd1, hd2⟩ := ens_at (H.out.same HB.out) (show i < n by omega)
              cases eb
              have hpy := hp4 i y rfl hy
              subst hpy
              clear hy hp3 hp4
              have z1 : ((i + 1 : Nat) : Int) - 1 = (i : Int) := by omega
              by_cases hasc : y.tag < x.tag
              · have hge : ¬ x.tag ≤ y.tag := by omega
                have he : regFrom (x.tag + 1) (l.drop (i + 1 + 1)) = regFrom 0 l := by
                  rw [← hpr]; simp [e1, e2, e3, hasc]
                have HE : Hid _ := he
                have HP : Hid (∀ i2 y2, i + 1 + 1 = i2 + 1 → l[i2]? = some y2 → x.tag = y2.tag) := fun i2 y2 e hy2 => by
                  obtain rfl : i2 = i + 1 := by omega
                  have h0 := HX.out
                  rw [hy2] at h0
                  cases h0
                  rfl
                clear he
                clear hpr hone e1 e2 e3
                go_wp2_with fail
                go_quiet (first | (go_at_call 58; first | (with_reducible exact Calls.quiet_of (h1 _)) | (with_reducible exact Calls.quiet_of (h3 _))) | (go_at_call 77; exact Calls.quiet_of (h2 _)))
                go_wp2
                go_roundw
                case rel => exact ⟨i + 1 + 1, by omega, by go_num, ⟨x.tag, by omega, by omega, fun e => by omega, HP.out, HE.out⟩, HB.out.trans (drewN_same _ _ |>.mono HB.out.size)⟩
                case measure => simp [intOf]; omega
              · have hge : x.tag ≤ y.tag := by omega
                have he : false = isReg l := by
                  have hq : regFrom 0 l = false := by
                    rw [← hpr]; simp [hasc]
                  unfold isReg; rw [hq]; simp
                have HE : Hid (false = isReg l) := he
                clear he
                clear hpr hone
                go_wp2_with fail
                go_quiet (first | (go_at_call 58; first | (with_reducible exact Calls.quiet_of (h1 _)) | (with_reducible exact Calls.quiet_of (h3 _))) | (go_at_call 77; exact Calls.quiet_of (h2 _)))
                go_wp2
                go_ret
                exact ⟨by rw [← HE.out]; rfl, HB.out.trans (drewN_same _ _ |>.mono HB.out.size)⟩
    · obtain rfl : j = n := by omega
      obtain ⟨p, _, _, _, _, hpr⟩ := HQ.out
      have HE : Hid (decide (j ≤ 12) = isReg l) := by
        rw [List.drop_eq_nil_of_le (by rw [HL.out]; exact Nat.le_refl _)] at hpr
        show _ = _
        unfold isReg
        rw [← hpr, HL.out]
        simp [regFrom]
      clear hpr HQ
      go_wp2
      go_ret
      refine ⟨?_, HB.out⟩
      rw [← HE.out]
      first | rfl | (congr 2; simp; done) | (simp; done) | (simp; omega)
end Go.Proofs.Ytjmabidahofbbaa
