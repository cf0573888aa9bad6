/- Tags given: by the model. -/
import Derived.Test.YtjmabidahofbbaaAs0
import Derived.Test.YtjmabidahofbbaaRtM
namespace Go.Proofs.Ytjmabidahofbbaa
open Go.ChangeShapes Go.WideShapes Go.ChangeAt Go.RowKit Go.Sort
set_option linter.unusedVariables false

theorem tw_at {α : Type} (p : α → Bool) : ∀ (l : List α) (i : Nat) (x : α), l[i]? = some x → i < (l.takeWhile p).length → p x = true
  | [], i, x, h, _ => by simp at h
  | y :: l, i, x, h, hi => by
    rw [List.takeWhile_cons] at hi
    cases hy : p y with
    | false => rw [hy] at hi; simp at hi
    | true =>
      rw [hy] at hi
      cases i with
      | zero =>
        have e : y = x := by simpa using h
        rw [← e]; exact hy
      | succ i => exact tw_at p l i x (by simpa using h) (by simpa using hi)
theorem tw_stop {α : Type} (p : α → Bool) : ∀ (l : List α) (x : α), l[(l.takeWhile p).length]? = some x → p x = false
  | [], x, h => by simp at h
  | y :: l, x, h => by
    rw [List.takeWhile_cons] at h
    cases hy : p y with
    | false =>
      rw [hy] at h
      have e : y = x := by simpa using h
      rw [← e]; exact hy
    | true =>
      rw [hy] at h
      exact tw_stop p l x (by simpa using h)
theorem items_drop {w : World} {b o n k : Nat} {l : List En} (h : Ens w (some ⟨b, o, none⟩) n l) (hk : k ≤ n) : Ens w (some ⟨b, o + k * 3, none⟩) (n - k) (l.drop k) := by
  refine ⟨by rw [List.length_drop, h.len], by have := h.fits; omega, fun j x hj => ?_⟩
  rw [List.getElem?_drop] at hj
  obtain ⟨b', o', e, hx⟩ := h.cell (k + j) x hj
  cases e
  refine ⟨b, o + k * 3, rfl, fun i v hv => ?_⟩
  have := hx i v hv
  rw [show o + k * 3 + j * 3 + i = o + (k + j) * 3 + i by omega]
  exact this
theorem ens_zero (w : World) (a : Option Addr) : Ens w a 0 [] := ⟨rfl, by omega, fun j x h => by simp at h⟩
set_option maxHeartbeats 2000000 in
set_option maxRecDepth 100000 in
theorem specAssignTag_any {a : Option Addr} {n c : Nat} {l : List En} {w : World} (v : Int) (h : Ens w a n l) (hn : n ≤ 1048576000) (hnc : n ≤ c ∧ (c : Int) ≤ 9223372036854775807) :
    Calls Try.prog 42 #[.slice a n c, .int .i64 v] w (fun e w' => ∃ b m d, e = .returned (.tuple #[.slice b m d, .int .i64 (asgT l v), .bool (asgOk l v)]) ∧ OwnN 51 w' w.heap.size b m d (asgL l v) ∧ Below w.heap.size w w') := by
  have hreg := specIsRegistry_any (c := c) h
  have H := Lib.hid h
  have HL := Lib.hid h.len
  clear h
  obtain ⟨i0, hi, hz0, hz1, hz2⟩ := info_parts infoEntryS
  have HI := Lib.hid (And.intro hi (And.intro hz0 (And.intro hz1 hz2)))
  clear hi hz0 hz1 hz2
  obtain ⟨r, hr⟩ : ∃ r, isReg l = r := ⟨_, rfl⟩
  rw [hr] at hreg
  have HR := Lib.hid hr
  have hven := l1R_b v 0 9
  obtain ⟨vb, hvb⟩ : ∃ vb, inB v 0 9 = vb := ⟨_, rfl⟩
  rw [hvb] at hven
  have HV := Lib.hid hvb
  clear hr hvb
  have hno : asgOk l v = false → Hid (asgT l v = -1 ∧ asgL l v = l ∧ asgOk l v = false) := fun e => Lib.hid ⟨(asg_no e).1, (asg_no e).2, e⟩
  have NO := Lib.hid hno
  clear hno
  go_enter Try.func42, Try.ntmps42
  go_wp2_with fail
  refine hreg.mono ?_
  rintro e w1 ⟨rfl, hb⟩
  have HB1 : Hid (Below w.heap.size w w1) := Lib.hid hb
  have hsz1 := hb.size
  clear hb hreg
  cases r with
  | false =>
    have HQ := NO.out (by unfold asgOk; rw [HR.out]; rfl)
    clear NO hven
    go_wp2_with ((at_builtin; refine wpl_app_some _ rfl (.tmp 23) (.tmp 24) 38 rfl 51 i0 (.agg #[.int .i64 0, .int .i64 0, .bool false]) 24 Try.underlying38 HI.out.1 HI.out.2.1 HI.out.2.2.1 HI.out.2.2.2 rfl rfl (ens_empty _ 51 hsz1) rfl (H.out.same (HB1.out.alloc hsz1 _)) (by omega) ?c1 ?c2 ?_))
    case c1 => omega
    case c2 => first | omega | (simp; omega)
    intro g d w2 ho hb
    have HO2 : Hid (OwnN 51 w2 w.heap.size (some ⟨g, 0, none⟩) n d l) := Lib.hid (by simpa using ho)
    have HB2 : Hid (Below w.heap.size w w2) := Lib.hid ((HB1.out.alloc hsz1 _).trans hb)
    clear ho hb
    go_wp2_with fail
    go_ret3
    refine ⟨some ⟨g, 0, none⟩, n, d, by rw [HQ.out.1, HQ.out.2.2]; rfl, ?_, HB2.out⟩
    rw [HQ.out.2.1]; exact HO2.out
  | true =>
    cases vb with
    | false =>
      have HQ := NO.out (by unfold asgOk; rw [HV.out, Bool.and_false]; rfl)
      clear NO
      go_wp2_with (first | (go_at_call 58; refine (hven _).mono ?_; rintro e w' ⟨rfl, rfl⟩) | (at_builtin; refine wpl_app_some _ rfl (.tmp 23) (.tmp 24) 38 rfl 51 i0 (.agg #[.int .i64 0, .int .i64 0, .bool false]) 24 Try.underlying38 HI.out.1 HI.out.2.1 HI.out.2.2.1 HI.out.2.2.2 rfl rfl (ens_empty _ 51 hsz1) rfl (H.out.same (HB1.out.alloc hsz1 _)) (by omega) ?c1 ?c2 ?_))
      case c1 => omega
      case c2 => first | omega | (simp; omega)
      intro g d w2 ho hb
      have HO2 : Hid (OwnN 51 w2 w.heap.size (some ⟨g, 0, none⟩) n d l) := Lib.hid (by simpa using ho)
      have HB2 : Hid (Below w.heap.size w w2) := Lib.hid ((HB1.out.alloc hsz1 _).trans hb)
      clear ho hb
      go_wp2_with fail
      go_ret3
      refine ⟨some ⟨g, 0, none⟩, n, d, by rw [HQ.out.1, HQ.out.2.2]; rfl, ?_, HB2.out⟩
      rw [HQ.out.2.1]; exact HO2.out
    | true =>
      have hn12 : n ≤ 12 := by have h1 := (isReg_parts HR.out).1; have h2 := HL.out; omega
      by_cases hfull : 12 ≤ n
      · have hz : decide (12 ≤ n) = true := decide_eq_true hfull
        have hzz : (12 : Int) ≤ (n : Int) := by omega
        have HQ := NO.out (by unfold asgOk; rw [decide_eq_false (by have := HL.out; omega), Bool.and_false])
        clear NO
        go_wp2_with (first | (go_at_call 58; refine (hven _).mono ?_; rintro e w' ⟨rfl, rfl⟩) | (at_builtin; refine wpl_app_some _ rfl (.tmp 23) (.tmp 24) 38 rfl 51 i0 (.agg #[.int .i64 0, .int .i64 0, .bool false]) 24 Try.underlying38 HI.out.1 HI.out.2.1 HI.out.2.2.1 HI.out.2.2.2 rfl rfl (ens_empty _ 51 hsz1) rfl (H.out.same (HB1.out.alloc hsz1 _)) (by omega) ?c1 ?c2 ?_))
        case c1 => omega
        case c2 => first | omega | (simp; omega)
        intro g d w2 ho hb
        have HO2 : Hid (OwnN 51 w2 w.heap.size (some ⟨g, 0, none⟩) n d l) := Lib.hid (by simpa using ho)
        have HB2 : Hid (Below w.heap.size w w2) := Lib.hid ((HB1.out.alloc hsz1 _).trans hb)
        clear ho hb
        go_wp2_with fail
        go_ret3
        refine ⟨some ⟨g, 0, none⟩, n, d, by rw [HQ.out.1, HQ.out.2.2]; rfl, ?_, HB2.out⟩
        rw [HQ.out.2.1]; exact HO2.out
      · have hz : decide (12 ≤ n) = false := decide_eq_false hfull
        have hzz : ¬ (12 : Int) ≤ (n : Int) := by omega
        have hlt : l.length < 12 := by have := HL.out; omega
        have hok : asgOk l v = true := by unfold asgOk; rw [HR.out, HV.out, decide_eq_true hlt]; rfl
        have HQ := Lib.hid (And.intro hok (asg_yes hok))
        obtain ⟨hf0, hf1, hf2⟩ := free_spec hlt
        have hk0 := plcOf_le l (freeT l : Int)
        obtain ⟨F, hF⟩ : ∃ F, freeT l = F := ⟨_, rfl⟩
        rw [hF] at hf0 hf1 hf2 hk0
        have HFR := Lib.hid (And.intro hf0 hf2)
        obtain ⟨K, hK⟩ : ∃ K, plcOf l (F : Int) = K := ⟨_, rfl⟩
        rw [hK] at hk0
        have HE := Lib.hid (And.intro hF hK)
        have hkn : K ≤ n := by have := HL.out; omega
        clear NO hok hF hK hk0 hlt hf0 hf2
        go_wp2_with (go_at_call 58; refine (hven _).mono ?_; rintro e w' ⟨rfl, rfl⟩)
        go_loopw [7] (fun vt wr => ∃ t : Nat, vt = .int .i64 t ∧ t ≤ F ∧ Hid (Below w.heap.size w wr)) (fun vt _ => F - (intOf vt).toNat)
        case atStart => exact ⟨0, rfl, Nat.zero_le _, HB1⟩
        case round =>
          clear HB1 hsz1
          obtain ⟨t, rfl, htF, HB1⟩ := hrel
          have hsz1 := HB1.out.size
          have hres := specIsReserved_any (t : Int)
          have hown := specOwnerOf_any (c := c) (t : Int) (H.out.same HB1.out)
          obtain ⟨o, ho⟩ : ∃ o, ownOf l (t : Int) = o := ⟨_, rfl⟩
          rw [ho] at hown
          obtain ⟨q, hq⟩ : ∃ q, resv (t : Int) = q := ⟨_, rfl⟩
          rw [hq] at hres
          have HT : Hid (tkn l t = (q || decide (0 ≤ o))) := Lib.hid (by unfold tkn; rw [hq, ← own_any HR.out, ho])
          clear ho hq
          cases q with
          | true =>
            have hlt : t < F := by
              have h1 := HT.out
              rw [Bool.true_or] at h1
              rcases Nat.lt_or_ge t F with h | h
              · exact h
              · obtain rfl : t = F := by omega
                rw [HFR.out.1] at h1; cases h1
            go_wp2_with (go_at_call 77; refine (hres _).mono ?_; rintro e w' ⟨rfl, rfl⟩)
            go_roundw
            case rel => exact ⟨t + 1, by go_num, hlt, HB1⟩
            case measure => simp [intOf]; omega
          | false =>
            by_cases ho0 : 0 ≤ o
            · have ho1 : decide (0 ≤ o) = true := decide_eq_true ho0
              have hlt : t < F := by
                have h1 := HT.out
                rw [ho1] at h1
                rcases Nat.lt_or_ge t F with h | h
                · exact h
                · obtain rfl : t = F := by omega
                  rw [HFR.out.1] at h1; cases h1
              go_wp2_with (first | (go_at_call 77; refine (hres _).mono ?_; rintro e w' ⟨rfl, rfl⟩) | (go_at_call 39; refine hown.mono ?_; rintro e w' ⟨rfl, rfl⟩))
              go_roundw
              case rel => exact ⟨t + 1, by go_num, hlt, HB1⟩
              case measure => simp [intOf]; omega
            · have ho1 : decide (0 ≤ o) = false := decide_eq_false ho0
              have heq : t = F := by
                rcases Nat.lt_or_ge t F with h | h
                · have h1 := HFR.out.2 t h
                  rw [HT.out, ho1] at h1; cases h1
                · omega
              subst heq
              go_wp2_with (first | (go_at_call 77; refine (hres _).mono ?_; rintro e w' ⟨rfl, rfl⟩) | (go_at_call 39; refine hown.mono ?_; rintro e w' ⟨rfl, rfl⟩))
              clear hres hown HT
              go_loopw [8] (fun vk wr => ∃ k : Nat, vk = .int .i64 k ∧ k ≤ K ∧ Hid (Below w.heap.size w wr)) (fun vk _ => K - (intOf vk).toNat)
              case atStart => exact ⟨0, rfl, Nat.zero_le _, HB1⟩
              case round =>
                clear HB1 hsz1
                obtain ⟨k, rfl, hkK, HB1⟩ := hrel
                have hsz1 := HB1.out.size
                by_cases hkk : k < K
                · have hkn2 : k < n := by omega
                  obtain ⟨b, o2, x, rfl, hx, hc0, hc1, hc2⟩ := ens_at (H.out.same HB1.out) hkn2
                  have hlt : x.tag < (t : Int) := by
                    have h1 := tw_at (fun x : En => decide (x.tag < (t : Int))) l k x hx (by have := HE.out.2; unfold plcOf at this; omega)
                    simpa using h1
                  clear hx
                  go_wp2
                  go_roundw
                  case rel => exact ⟨k + 1, by go_num, hkk, HB1⟩
                  case measure => simp [intOf]; omega
                · obtain rfl : k = K := by omega
                  have hx0 := HE.out.2
                  have HA : Hid (asgT l v = (t : Int) ∧ asgL l v = l.take k ++ ⟨(t : Int), v, false⟩ :: l.drop k) := Lib.hid ⟨by rw [HQ.out.2.1, HE.out.1], by rw [HQ.out.2.2]; unfold insB; rw [HE.out.1]; show l.take (plcOf l (t : Int)) ++ (⟨(t : Int), v, false⟩ : En) :: l.drop (plcOf l (t : Int)) = _; rw [HE.out.2]⟩
                  rcases Nat.lt_or_ge k n with hkn2 | hkn2
                  · obtain ⟨b, o2, x, rfl, hx, hc0, hc1, hc2⟩ := ens_at (H.out.same HB1.out) hkn2
                    have hlt : ¬ x.tag < (t : Int) := by
                      have h1 := tw_stop (fun x : En => decide (x.tag < (t : Int))) l x (by unfold plcOf at hx0; rw [hx0]; exact hx)
                      simpa using h1
                    have hge : (t : Int) ≤ x.tag := by omega
                    have hne : ¬ (c = k) := by omega
                    have HD : Hid (∀ W, Below w.heap.size w W → Ens W (some ⟨b, o2 + k * 3, none⟩) (n - k) (l.drop k)) := Lib.hid fun W hW => items_drop (H.out.same hW) hkn
                    clear hx hx0
                    go_wp2_with (at_builtin; refine wpl_app_some _ rfl (.tmp 51) (.tmp 54) 38 rfl 51 i0 (.agg #[.int .i64 0, .int .i64 0, .bool false]) 24 Try.underlying38 HI.out.1 HI.out.2.1 HI.out.2.2.1 HI.out.2.2.2 rfl rfl (ens_empty _ 51 hsz1) rfl ((H.out.take _ hkn).same (HB1.out.alloc hsz1 _)) (by omega) ?c1 ?c2 ?_)
                    case c1 => omega
                    case c2 => first | omega | (simp; omega)
                    intro g1 d1 w3 ho hb
                    have HO3 := Lib.hid ho
                    have HB3 : Hid (Below w.heap.size w w3) := Lib.hid ((HB1.out.alloc hsz1 _).trans hb)
                    have hsz3 := HB3.out.size
                    clear ho hb
                    go_wp2_with (at_builtin; refine wpl_app_some _ rfl (.tmp 55) (.tmp 59) 38 rfl 51 i0 (.agg #[.int .i64 0, .int .i64 0, .bool false]) 24 Try.underlying38 HI.out.1 HI.out.2.1 HI.out.2.2.1 HI.out.2.2.2 rfl rfl (HO3.out.alloc _) rfl (items_new En.enc_len _ (⟨(t : Int), v, false⟩ : En) 51) (by omega) ?c1 ?c2 ?_)
                    case c1 => omega
                    case c2 => first | omega | (simp; omega)
                    intro g2 d2 w4 ho hb
                    have HO4 := Lib.hid ho
                    have HB4 : Hid (Below w.heap.size w w4) := Lib.hid ((HB3.out.alloc hsz3 _).trans hb)
                    have hsz4 := HB4.out.size
                    clear ho hb
                    go_wp2_with (at_builtin; refine wpl_app_some _ rfl (.tmp 61) (.tmp 64) 38 rfl 51 i0 (.agg #[.int .i64 0, .int .i64 0, .bool false]) 24 Try.underlying38 HI.out.1 HI.out.2.1 HI.out.2.2.1 HI.out.2.2.2 rfl rfl HO4.out rfl (HD.out _ (HB4.out)) (by omega) ?c1 ?c2 ?_)
                    case c1 => omega
                    case c2 => exact hsz4
                    intro g3 d3 w5 ho hb
                    have HO5 := Lib.hid ho
                    have HB5 : Hid (Below w.heap.size w w5) := Lib.hid (HB4.out.trans hb)
                    clear ho hb
                    go_wp2_with fail
                    go_ret3
                    refine ⟨some ⟨g3, 0, none⟩, _, d3, by rw [HA.out.1, HQ.out.1]; rfl, ?_, HB5.out⟩
                    rw [HA.out.2]
                    simpa [List.append_assoc] using HO5.out
                  · obtain rfl : n = k := by omega
                    have hd0 : l.drop n = [] := List.drop_eq_nil_of_le (by rw [HL.out]; exact Nat.le_refl _)
                    have HD0 := Lib.hid hd0
                    clear hd0 hx0
                    cases a with
                    | none =>
                      have hnz : n = 0 := by
                        rcases Nat.eq_zero_or_pos n with h | h
                        · exact h
                        · obtain ⟨b, o2, x, e, _⟩ := ens_at H.out h; cases e
                      subst hnz
                      rcases Nat.eq_zero_or_pos c with hc9 | hc9
                      · subst hc9
                        go_wp2_with (at_builtin; refine wpl_app_some _ rfl (.tmp 51) (.tmp 54) 38 rfl 51 i0 (.agg #[.int .i64 0, .int .i64 0, .bool false]) 24 Try.underlying38 HI.out.1 HI.out.2.1 HI.out.2.2.1 HI.out.2.2.2 rfl rfl (ens_empty _ 51 hsz1) rfl ((H.out.take _ hkn).same (HB1.out.alloc hsz1 _)) (by omega) ?c1 ?c2 ?_)
                        case c1 => omega
                        case c2 => first | omega | (simp; omega)
                        intro g1 d1 w3 ho hb
                        have HO3 := Lib.hid ho
                        have HB3 : Hid (Below w.heap.size w w3) := Lib.hid ((HB1.out.alloc hsz1 _).trans hb)
                        have hsz3 := HB3.out.size
                        clear ho hb
                        go_wp2_with (at_builtin; refine wpl_app_some _ rfl (.tmp 55) (.tmp 59) 38 rfl 51 i0 (.agg #[.int .i64 0, .int .i64 0, .bool false]) 24 Try.underlying38 HI.out.1 HI.out.2.1 HI.out.2.2.1 HI.out.2.2.2 rfl rfl (HO3.out.alloc _) rfl (items_new En.enc_len _ (⟨(t : Int), v, false⟩ : En) 51) (by omega) ?c1 ?c2 ?_)
                        case c1 => omega
                        case c2 => first | omega | (simp; omega)
                        intro g2 d2 w4 ho hb
                        have HO4 := Lib.hid ho
                        have HB4 : Hid (Below w.heap.size w w4) := Lib.hid ((HB3.out.alloc hsz3 _).trans hb)
                        have hsz4 := HB4.out.size
                        clear ho hb
                        go_wp2_with (at_builtin; refine wpl_app_some _ rfl (.tmp 61) (.tmp 64) 38 rfl 51 i0 (.agg #[.int .i64 0, .int .i64 0, .bool false]) 24 Try.underlying38 HI.out.1 HI.out.2.1 HI.out.2.2.1 HI.out.2.2.2 rfl rfl HO4.out rfl (ens_zero _ _) (by omega) ?c1 ?c2 ?_)
                        case c1 => omega
                        case c2 => exact hsz4
                        intro g3 d3 w5 ho hb
                        have HO5 := Lib.hid ho
                        have HB5 : Hid (Below w.heap.size w w5) := Lib.hid (HB4.out.trans hb)
                        clear ho hb
                        go_wp2_with fail
                        go_ret3
                        refine ⟨some ⟨g3, 0, none⟩, _, d3, by rw [HA.out.1, HQ.out.1]; rfl, ?_, HB5.out⟩
                        rw [HA.out.2, HD0.out]
                        simpa [List.append_assoc] using HO5.out
                      · have hne : ¬ (c = 0) := by omega
                        go_wp2_with (at_builtin; refine wpl_app_some _ rfl (.tmp 51) (.tmp 54) 38 rfl 51 i0 (.agg #[.int .i64 0, .int .i64 0, .bool false]) 24 Try.underlying38 HI.out.1 HI.out.2.1 HI.out.2.2.1 HI.out.2.2.2 rfl rfl (ens_empty _ 51 hsz1) rfl ((H.out.take _ hkn).same (HB1.out.alloc hsz1 _)) (by omega) ?c1 ?c2 ?_)
                        case c1 => omega
                        case c2 => first | omega | (simp; omega)
                        intro g1 d1 w3 ho hb
                        have HO3 := Lib.hid ho
                        have HB3 : Hid (Below w.heap.size w w3) := Lib.hid ((HB1.out.alloc hsz1 _).trans hb)
                        have hsz3 := HB3.out.size
                        clear ho hb
                        go_wp2_with (at_builtin; refine wpl_app_some _ rfl (.tmp 55) (.tmp 59) 38 rfl 51 i0 (.agg #[.int .i64 0, .int .i64 0, .bool false]) 24 Try.underlying38 HI.out.1 HI.out.2.1 HI.out.2.2.1 HI.out.2.2.2 rfl rfl (HO3.out.alloc _) rfl (items_new En.enc_len _ (⟨(t : Int), v, false⟩ : En) 51) (by omega) ?c1 ?c2 ?_)
                        case c1 => omega
                        case c2 => first | omega | (simp; omega)
                        intro g2 d2 w4 ho hb
                        have HO4 := Lib.hid ho
                        have HB4 : Hid (Below w.heap.size w w4) := Lib.hid ((HB3.out.alloc hsz3 _).trans hb)
                        have hsz4 := HB4.out.size
                        clear ho hb
                        go_wp2_with (at_builtin; refine wpl_app_some _ rfl (.tmp 61) (.tmp 64) 38 rfl 51 i0 (.agg #[.int .i64 0, .int .i64 0, .bool false]) 24 Try.underlying38 HI.out.1 HI.out.2.1 HI.out.2.2.1 HI.out.2.2.2 rfl rfl HO4.out rfl (ens_zero _ _) (by omega) ?c1 ?c2 ?_)
                        case c1 => omega
                        case c2 => exact hsz4
                        intro g3 d3 w5 ho hb
                        have HO5 := Lib.hid ho
                        have HB5 : Hid (Below w.heap.size w w5) := Lib.hid (HB4.out.trans hb)
                        clear ho hb
                        go_wp2_with fail
                        go_ret3
                        refine ⟨some ⟨g3, 0, none⟩, _, d3, by rw [HA.out.1, HQ.out.1]; rfl, ?_, HB5.out⟩
                        rw [HA.out.2, HD0.out]
                        simpa [List.append_assoc] using HO5.out
                    | some ad =>
                      have H9 := (H.out.same HB1.out)
                      by_cases hc9 : c = n
                      · subst hc9
                        clear H9
                        go_wp2_with (at_builtin; refine wpl_app_some _ rfl (.tmp 51) (.tmp 54) 38 rfl 51 i0 (.agg #[.int .i64 0, .int .i64 0, .bool false]) 24 Try.underlying38 HI.out.1 HI.out.2.1 HI.out.2.2.1 HI.out.2.2.2 rfl rfl (ens_empty _ 51 hsz1) rfl ((H.out.take _ hkn).same (HB1.out.alloc hsz1 _)) (by omega) ?c1 ?c2 ?_)
                        case c1 => omega
                        case c2 => first | omega | (simp; omega)
                        intro g1 d1 w3 ho hb
                        have HO3 := Lib.hid ho
                        have HB3 : Hid (Below w.heap.size w w3) := Lib.hid ((HB1.out.alloc hsz1 _).trans hb)
                        have hsz3 := HB3.out.size
                        clear ho hb
                        go_wp2_with (at_builtin; refine wpl_app_some _ rfl (.tmp 55) (.tmp 59) 38 rfl 51 i0 (.agg #[.int .i64 0, .int .i64 0, .bool false]) 24 Try.underlying38 HI.out.1 HI.out.2.1 HI.out.2.2.1 HI.out.2.2.2 rfl rfl (HO3.out.alloc _) rfl (items_new En.enc_len _ (⟨(t : Int), v, false⟩ : En) 51) (by omega) ?c1 ?c2 ?_)
                        case c1 => omega
                        case c2 => first | omega | (simp; omega)
                        intro g2 d2 w4 ho hb
                        have HO4 := Lib.hid ho
                        have HB4 : Hid (Below w.heap.size w w4) := Lib.hid ((HB3.out.alloc hsz3 _).trans hb)
                        have hsz4 := HB4.out.size
                        clear ho hb
                        go_wp2_with (at_builtin; refine wpl_app_some _ rfl (.tmp 61) (.tmp 64) 38 rfl 51 i0 (.agg #[.int .i64 0, .int .i64 0, .bool false]) 24 Try.underlying38 HI.out.1 HI.out.2.1 HI.out.2.2.1 HI.out.2.2.2 rfl rfl HO4.out rfl (ens_zero _ _) (by omega) ?c1 ?c2 ?_)
                        case c1 => omega
                        case c2 => exact hsz4
                        intro g3 d3 w5 ho hb
                        have HO5 := Lib.hid ho
                        have HB5 : Hid (Below w.heap.size w w5) := Lib.hid (HB4.out.trans hb)
                        clear ho hb
                        go_wp2_with fail
                        go_ret3
                        refine ⟨some ⟨g3, 0, none⟩, _, d3, by rw [HA.out.1, HQ.out.1]; rfl, ?_, HB5.out⟩
                        rw [HA.out.2, HD0.out]
                        simpa [List.append_assoc] using HO5.out
                      · clear H9
                        go_wp2_with (at_builtin; refine wpl_app_some _ rfl (.tmp 51) (.tmp 54) 38 rfl 51 i0 (.agg #[.int .i64 0, .int .i64 0, .bool false]) 24 Try.underlying38 HI.out.1 HI.out.2.1 HI.out.2.2.1 HI.out.2.2.2 rfl rfl (ens_empty _ 51 hsz1) rfl ((H.out.take _ hkn).same (HB1.out.alloc hsz1 _)) (by omega) ?c1 ?c2 ?_)
                        case c1 => omega
                        case c2 => first | omega | (simp; omega)
                        intro g1 d1 w3 ho hb
                        have HO3 := Lib.hid ho
                        have HB3 : Hid (Below w.heap.size w w3) := Lib.hid ((HB1.out.alloc hsz1 _).trans hb)
                        have hsz3 := HB3.out.size
                        clear ho hb
                        go_wp2_with (at_builtin; refine wpl_app_some _ rfl (.tmp 55) (.tmp 59) 38 rfl 51 i0 (.agg #[.int .i64 0, .int .i64 0, .bool false]) 24 Try.underlying38 HI.out.1 HI.out.2.1 HI.out.2.2.1 HI.out.2.2.2 rfl rfl (HO3.out.alloc _) rfl (items_new En.enc_len _ (⟨(t : Int), v, false⟩ : En) 51) (by omega) ?c1 ?c2 ?_)
                        case c1 => omega
                        case c2 => first | omega | (simp; omega)
                        intro g2 d2 w4 ho hb
                        have HO4 := Lib.hid ho
                        have HB4 : Hid (Below w.heap.size w w4) := Lib.hid ((HB3.out.alloc hsz3 _).trans hb)
                        have hsz4 := HB4.out.size
                        clear ho hb
                        go_wp2_with (at_builtin; refine wpl_app_some _ rfl (.tmp 61) (.tmp 64) 38 rfl 51 i0 (.agg #[.int .i64 0, .int .i64 0, .bool false]) 24 Try.underlying38 HI.out.1 HI.out.2.1 HI.out.2.2.1 HI.out.2.2.2 rfl rfl HO4.out rfl (ens_zero _ _) (by omega) ?c1 ?c2 ?_)
                        case c1 => omega
                        case c2 => exact hsz4
                        intro g3 d3 w5 ho hb
                        have HO5 := Lib.hid ho
                        have HB5 : Hid (Below w.heap.size w w5) := Lib.hid (HB4.out.trans hb)
                        clear ho hb
                        go_wp2_with fail
                        go_ret3
                        refine ⟨some ⟨g3, 0, none⟩, _, d3, by rw [HA.out.1, HQ.out.1]; rfl, ?_, HB5.out⟩
                        rw [HA.out.2, HD0.out]
                        simpa [List.append_assoc] using HO5.out
end Go.Proofs.Ytjmabidahofbbaa
