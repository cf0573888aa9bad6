/- A message read from the beginning of its bytes, and from all of them, by the model. -/
import Derived.Test.YtpbmmepoddbefaaReadM
import Derived.Test.YtpbmmepoddbefaaValS
namespace Go.Proofs.Ytpbmmepoddbefaa
open Go.ChangeShapes Go.WideShapes Go.ChangeAt Go.RowKit
set_option linter.unusedVariables false

/-- The message that b begins with, and how many bytes it has; nothing and -1 if there is none. -/
noncomputable def rpV (l : List Fd) (y : List Int) : List Vl := (rdP l y).elim [] (fun s => s.1)
noncomputable def rpK (l : List Fd) (y : List Int) : Int := (rdP l y).elim (-1) (fun s => (s.2 : Int))
theorem rp_none {l : List Fd} {y : List Int} (h : rdP l y = none) : rpV l y = [] ∧ rpK l y = -1 := by unfold rpV rpK; rw [h]; exact ⟨rfl, rfl⟩
theorem rp_some {l : List Fd} {y : List Int} {v : List Vl} {k : Nat} (h : rdP l y = some (v, k)) : rpV l y = v ∧ rpK l y = k := by unfold rpV rpK; rw [h]; exact ⟨rfl, rfl⟩
/-- Whether all bytes are those of a message, and of which. -/
noncomputable def dmOk (l : List Fd) (y : List Int) : Bool := decide (rpK l y = (y.length : Int))
noncomputable def dmV (l : List Fd) (y : List Int) : List Vl := if dmOk l y = true then rpV l y else []
theorem rpV_few (l : List Fd) (y : List Int) : (rpV l y).length ≤ 6 ∧ itemsOf (rpV l y) ≤ 30 := by
  cases h : rdP l y with
  | none => rw [(rp_none h).1]; simp [itemsOf]
  | some s =>
    obtain ⟨v, k⟩ := s
    rw [(rp_some h).1]
    obtain ⟨h1, h2, h3⟩ := fitsFmt_parts (rdP_form h).1
    have h4 := isFmt_iff.1 h1
    have h5 := h4.1
    have hs : ∀ j, j ≤ v.length → itemsOf (v.take j) ≤ 5 * j := by
      intro j
      induction j with
      | zero => intro _; simp [itemsOf]
      | succ j ih =>
        intro hj
        obtain ⟨x, hx⟩ : ∃ x, l[j]? = some x := ⟨_, List.getElem?_eq_getElem (by omega)⟩
        obtain ⟨z, hz⟩ : ∃ z, v[j]? = some z := ⟨_, List.getElem?_eq_getElem (by omega)⟩
        have h6 := h3 j x z (by omega) hx hz
        have h7 : z.items.length ≤ 5 := by
          cases ht : isThere l v j with
          | false =>
            rw [fitsAt_not ht] at h6
            unfold emptyV at h6
            rw [Bool.and_eq_true, decide_eq_true_eq, decide_eq_true_eq] at h6
            rw [h6.2]
            simp
          | true =>
            rw [fitsAt_there ht] at h6
            have h8 := h4.2 j x (by omega) hx
            unfold fieldOk at h8
            rw [Bool.and_eq_true, decide_eq_true_eq] at h8
            have h9 := h8.1
            unfold mostOf at h9
            unfold fitsField fitIts at h6
            split at h6
            · rw [Bool.and_eq_true, decide_eq_true_eq, decide_eq_true_eq] at h6
              omega
            · rename_i hk
              rw [if_neg hk] at h9
              have h10 : x.max ≤ 5 := by
                revert h9
                repeat' split
                all_goals omega
              split at h6
              · rw [Bool.and_eq_true, Bool.and_eq_true, decide_eq_true_eq, decide_eq_true_eq] at h6
                omega
              · split at h6
                · rw [Bool.and_eq_true, Bool.and_eq_true, decide_eq_true_eq, decide_eq_true_eq] at h6
                  omega
                · cases h6
        rw [itemsOf_at hz]
        have := ih (by omega)
        omega
    have h6 := hs v.length (Nat.le_refl _)
    rw [List.take_of_length_le (Nat.le_refl _)] at h6
    omega
theorem dmV_few (l : List Fd) (y : List Int) : (dmV l y).length ≤ 6 ∧ itemsOf (dmV l y) ≤ 30 := by
  unfold dmV
  split
  · exact rpV_few l y
  · simp [itemsOf]
/-- What a function leaves that reads the beginning of some bytes, and one that reads all of them. -/
def RpTold (tO tI : TypeId) (l : List Fd) (y : List Int) (w : World) (e : Ending) (w' : World) : Prop :=
  ∃ a n c, e = .returned (.tuple #[.slice a n c, .int .i64 (rpK l y)]) ∧ OwnV tO tI w' w.heap.size a n c (rpV l y) ∧ Below w.heap.size w w'
def DmTold (tO tI : TypeId) (l : List Fd) (y : List Int) (w : World) (e : Ending) (w' : World) : Prop :=
  ∃ a n c, e = .returned (.tuple #[.slice a n c, .bool (dmOk l y)]) ∧ OwnV tO tI w' w.heap.size a n c (dmV l y) ∧ Below w.heap.size w w'

set_option maxHeartbeats 8000000 in
set_option maxRecDepth 100000 in
theorem specReadPrefix_any (a : Option Addr) (n c : Nat) (l : List Fd) (b : Option Addr) (m d : Nat) (y : List Int) (w : World) (h : Fds w a n l) (hv : Nums .i64 w b m y) (hc : m ≤ d ∧ (d : Int) ≤ 9223372036854775807) (hn : n ≤ 1000000000) (hm : m ≤ 1000000000) :
    Calls Try.prog 74 #[.slice a n c, .slice b m d] w (RpTold 59 3 l y w) := by
  have H := Lib.hid h
  have HV := Lib.hid hv
  have hl := Lib.hid h.len
  have hyl := Lib.hid hv.len
  have KF := Lib.hid (fun (w0 : World) (hb : Below w.heap.size w w0) => specIsFormat_any a n c l w0 (h.same hb) hn)
  have KR := Lib.hid (fun (x : Fd) (k : Nat) (hk : k ≤ m) (w0 : World) (hb : Below w.heap.size w w0) => specRead_any x b m d y k w0 (hv.same hb) hc hm hk)
  obtain ⟨i0, hi, hz0, hz1, hz2⟩ := info_parts infoValueS
  have HI := Lib.hid (And.intro hi (And.intro hz0 (And.intro hz1 hz2)))
  clear h hv hi hz0 hz1 hz2
  have HB0 : Hid (Below w.heap.size w (w.alloc (.cells #[] 59))) := Lib.hid (alloc_same _ _)
  have HO0 : Hid (OwnV 59 3 (w.alloc (.cells #[] 59)) w.heap.size (some ⟨w.heap.size, 0, none⟩) 0 0 []) := Lib.hid (OwnV.empty (Nat.le_refl _))
  unfold RpTold
  cases hf : isFmt l with
  | false =>
    have HE := Lib.hid (rp_none (y := y) (rdP_not hf))
    rw [hf] at KF
    clear hf
    go_enter Try.func74, Try.ntmps74
    go_wp2_with fail
    refine (KF.out _ HB0.out).mono ?_
    rintro e w1 ⟨rfl, hb1⟩
    have HB1 := Lib.hid (HB0.out.trans (hb1.mono HB0.out.size))
    have HO1 := Lib.hid (HO0.out.same hb1)
    clear hb1
    go_wp2_with fail
    go_ret2
    exact ⟨_, _, _, by rw [HE.out.2]; rfl, by rw [HE.out.1]; exact HO1.out, HB1.out⟩
  | true =>
    have hF := isFmt_iff.1 hf
    have hn6 : n ≤ 6 := by have := hF.1; have := hl.out; omega
    have HSTOP := Lib.hid (fun (j : Nat) (hj : j ≤ l.length) (hr : rdTo l y j = none) => rp_none (rdP_stop hr hj))
    have HALL := Lib.hid (fun (s : List Vl) (k : Nat) (hr : rdTo l y l.length = some (s, k)) => rp_some (rdP_all hf hr))
    have HFORM := Lib.hid (fun (j k : Nat) (v : List Vl) (hj : j ≤ l.length) (hr : rdTo l y j = some (v, k)) => rdTo_form hF.2 j v k hj hr)
    rw [hf] at KF
    clear hf hF
    go_enter Try.func74, Try.ntmps74
    go_wp2_with fail
    refine (KF.out _ HB0.out).mono ?_
    rintro e w1 ⟨rfl, hb1⟩
    have HB1 := Lib.hid (HB0.out.trans (hb1.mono HB0.out.size))
    have HO1 := Lib.hid (HO0.out.same hb1)
    clear hb1
    go_wp2_with fail
    go_loopw [6, 7, 8] (fun s q i wr => ∃ (a' : Option Addr) (c' j k : Nat) (v : List Vl), s = .slice a' j c' ∧ q = .int .i64 k ∧ i = .int .i64 j ∧ j ≤ n ∧ rdTo l y j = some (v, k) ∧ OwnV 59 3 wr w.heap.size a' j c' v ∧ Below w.heap.size w wr) (fun _ _ i _ => n - (intOf i).toNat)
    case atStart => exact ⟨_, _, 0, 0, [], rfl, rfl, rfl, Nat.zero_le _, rfl, HO1.out, HB1.out⟩
    case round =>
      obtain ⟨a', c', j, k, v, rfl, rfl, rfl, hj, hr, ho, hb⟩ := hrel
      have hkm : k ≤ m := by have := (HFORM.out j k v (by rw [hl.out]; exact hj) hr).2.1; rw [hyl.out] at this; exact this
      have HO := Lib.hid ho
      have HB := Lib.hid hb
      have HR := Lib.hid hr
      clear ho hb hr
      by_cases hlt : j < n
      · have hltI : (j : Int) < (n : Int) := by omega
        obtain ⟨bb, o, ⟨xk, xm, xt, xi⟩, rfl, hx, hc0, hc1, hc2, hc3⟩ := fds_at H.out hlt
        dsimp only at hc0 hc1 hc2 hc3
        have KTJ := specIsThere_any _ n c l a' j c' v j wr (H.out.same HB.out) HO.out.vals hn (by omega)
        cases ht : isThere l v j with
        | false =>
          have HS : Hid (rdTo l y (j + 1) = some (v ++ [⟨0, []⟩], k)) := Lib.hid (by rw [rdTo_step HR.out, rdStep_not hx ht])
          rw [ht] at KTJ
          clear ht hx hc0 hc1 hc2 hc3
          go_wp2_with fail
          refine KTJ.mono ?_
          rintro e w2 ⟨rfl, hb2⟩
          have HB2 := Lib.hid (HB.out.trans (hb2.mono HB.out.size))
          have HO2 := Lib.hid (HO.out.same hb2)
          have hs2 := HB2.out.size
          clear hb2 KTJ
          go_wp2_with (at_builtin; refine wpl_appV _ rfl (.tmp 27) (.tmp 29) 27 rfl 59 3 i0 (.agg #[.int .i64 0, .slice none 0 0]) 32 Try.underlying27 HI.out.1 HI.out.2.1 HI.out.2.2.1 HI.out.2.2.2 rfl rfl (HO2.out.lim.same (alloc_same _ _)) rfl (items_new Vh.enc_len w2 ⟨0, none, 0, 0⟩ 59) Own.nil (fun ad e => by cases e) (by omega) ?c1 ?c2 ?_)
          case c1 => omega
          case c2 => simp; omega
          intro a3 c3 w3 ho3 hb3
          have HO3 := Lib.hid ho3
          have HB3 := Lib.hid (HB2.out.trans (((alloc_same _ _).mono HB2.out.size).trans hb3))
          clear ho3 hb3
          go_wp2_with fail
          go_roundw
          case rel => exact ⟨_, _, j + 1, k, _, rfl, rfl, by go_num, by omega, HS.out, HO3.out, HB3.out⟩
          case measure => simp [intOf]; omega
        | true =>
          have HS := Lib.hid (rdTo_step HR.out)
          have HT := Lib.hid (rdStep_there (b := y) (k := k) hx ht)
          rw [ht] at KTJ
          have C0 := Lib.hid hc0
          have C1 := Lib.hid hc1
          have C2 := Lib.hid hc2
          have C3 := Lib.hid hc3
          clear ht hx hc0 hc1 hc2 hc3
          go_wp2_with fail
          refine KTJ.mono ?_
          rintro e w2 ⟨rfl, hb2⟩
          have HB2 := Lib.hid (HB.out.trans (hb2.mono HB.out.size))
          have HO2 := Lib.hid (HO.out.same hb2)
          have hs2 := HB2.out.size
          have c0 := cell_stay C0.out HB2.out
          have c1 := cell_stay C1.out HB2.out
          have c2 := cell_stay C2.out HB2.out
          have c3 := cell_stay C3.out HB2.out
          clear hb2 KTJ
          have KRJ := KR.out ⟨xk, xm, xt, xi⟩ k hkm w2 HB2.out
          unfold Fd.val RdTold at KRJ
          go_wp2_with fail
          cases hrd : rdF ⟨xk, xm, xt, xi⟩ y k with
          | none =>
            rw [hrd] at KRJ
            have HE := Lib.hid (HSTOP.out (j + 1) (by rw [hl.out]; omega) (by rw [HS.out, HT.out, hrd]; rfl))
            clear hrd c0 c1 c2 c3
            refine KRJ.mono ?_
            rintro e w3 ⟨rfl, hb3⟩
            have HB3 := Lib.hid (HB2.out.trans (hb3.mono HB2.out.size))
            have hs3 := HB3.out.size
            have HEM : Hid (OwnV 59 3 ((w3.alloc (.cells #[.int .i64 0, .slice none 0 0] 59)).alloc (.cells #[] 59)) w.heap.size (some ⟨w3.heap.size + 1, 0, none⟩) 0 0 []) := Lib.hid (by
              have := OwnV.empty (tO := 59) (tI := 3) (w := w3.alloc (.cells #[.int .i64 0, .slice none 0 0] 59)) (B := w.heap.size) (by simp; omega)
              rw [show (w3.alloc (.cells #[.int .i64 0, .slice none 0 0] 59)).heap.size = w3.heap.size + 1 by simp] at this
              exact this)
            clear hb3
            go_wp2_with fail
            go_ret2
            exact ⟨_, _, _, by rw [HE.out.2]; rfl, by rw [HE.out.1]; exact HEM.out, (HB3.out.alloc (by omega) _).alloc (by simp; omega) _⟩
          | some s =>
            obtain ⟨⟨zn, zi⟩, k2⟩ := s
            rw [hrd] at KRJ
            have HN : Hid (rdTo l y (j + 1) = some (v ++ [⟨zn, zi⟩], k2)) := Lib.hid (by rw [HS.out, HT.out, hrd]; rfl)
            clear hrd c0 c1 c2 c3
            refine KRJ.mono ?_
            rintro e w3 ⟨p, q, g, rfl, ho3, hb3⟩
            have HB3 := Lib.hid (HB2.out.trans (hb3.mono HB2.out.size))
            have HO3 := Lib.hid (HO2.out.lim.same hb3)
            have HF3 : Hid (∀ ad, p = some ad → w2.heap.size ≤ ad.block) := Lib.hid fun ad e => (ho3.span ad e).1
            have HP3 := Lib.hid (ho3.lower hs2)
            have hs3 := HB3.out.size
            dsimp only at HP3
            have HNN : Hid (Items Vh.enc 2 ((w3.alloc (.cells #[.int .i64 zn, .slice p q g] 59)).alloc (.cells #[.int .i64 zn, .slice p q g] 59)) (some ⟨w3.heap.size + 1, 0, none⟩) 1 [⟨zn, p, q, g⟩]) := Lib.hid (by
              have := items_new Vh.enc_len (w3.alloc (.cells #[.int .i64 zn, .slice p q g] 59)) ⟨zn, p, q, g⟩ 59
              rw [show (w3.alloc (.cells #[.int .i64 zn, .slice p q g] 59)).heap.size = w3.heap.size + 1 by simp] at this
              exact this)
            have HA := Lib.hid ((HO3.out.same (alloc_same w3 (.cells #[.int .i64 zn, .slice p q g] 59))).same (alloc_same _ (.cells #[.int .i64 zn, .slice p q g] 59)))
            have HPA := Lib.hid ((HP3.out.alloc (.cells #[.int .i64 zn, .slice p q g] 59)).alloc (.cells #[.int .i64 zn, .slice p q g] 59))
            clear ho3 hb3
            have hk2 : ¬ (k2 : Int) < 0 := by omega
            go_wp2_with (at_builtin; refine wpl_appV _ rfl (.tmp 44) (.tmp 46) 27 rfl 59 3 i0 (.agg #[.int .i64 0, .slice none 0 0]) 32 Try.underlying27 HI.out.1 HI.out.2.1 HI.out.2.2.1 HI.out.2.2.2 rfl rfl HA.out rfl HNN.out HPA.out HF3.out (by omega) ?c3 ?c4 ?_)
            case c3 => omega
            case c4 => simp; omega
            intro a5 c5 w5 ho5 hb5
            have HO5 := Lib.hid ho5
            have HB5 := Lib.hid (HB3.out.trans ((((alloc_same _ _).mono HB3.out.size).trans ((alloc_same _ _).mono (by simp; omega))).trans hb5))
            clear ho5 hb5
            go_wp2_with fail
            go_roundw
            case rel => exact ⟨_, _, j + 1, k2, _, rfl, rfl, by go_num, by omega, HN.out, HO5.out, HB5.out⟩
            case measure => simp [intOf]; omega
      · obtain rfl : j = n := by omega
        have HE := Lib.hid (HALL.out v k (by rw [hl.out]; exact HR.out))
        go_wp2_with fail
        go_ret2
        exact ⟨_, _, _, by rw [HE.out.2]; rfl, by rw [HE.out.1]; exact HO.out, HB.out⟩
set_option maxHeartbeats 2000000 in
set_option maxRecDepth 100000 in
theorem specDecodeMessage_any (a : Option Addr) (n c : Nat) (l : List Fd) (b : Option Addr) (m d : Nat) (y : List Int) (w : World) (h : Fds w a n l) (hv : Nums .i64 w b m y) (hc : m ≤ d ∧ (d : Int) ≤ 9223372036854775807) (hn : n ≤ 1000000000) (hm : m ≤ 1000000000) :
    Calls Try.prog 63 #[.slice a n c, .slice b m d] w (DmTold 59 3 l y w) := by
  have K := Lib.hid (specReadPrefix_any a n c l b m d y w h hv hc hn hm)
  have hyl := hv.len
  clear h hv
  unfold RpTold at K
  unfold DmTold
  by_cases hk : rpK l y = (m : Int)
  · have hok : dmOk l y = true := by unfold dmOk; rw [hyl]; exact decide_eq_true hk
    have HE : Hid (dmOk l y = true ∧ dmV l y = rpV l y) := Lib.hid ⟨hok, by unfold dmV; rw [if_pos hok]⟩
    rw [hk] at K
    clear hk hok
    go_enter Try.func63, Try.ntmps63
    go_wp2_with fail
    refine K.out.mono ?_
    rintro e w1 ⟨a1, n1, c1, rfl, ho, hb⟩
    have HB := Lib.hid hb
    have HO := Lib.hid ho
    clear ho hb
    go_wp2_with fail
    go_ret2
    exact ⟨_, _, _, by rw [HE.out.1]; rfl, by rw [HE.out.2]; exact HO.out, HB.out⟩
  · have hok : dmOk l y = false := by unfold dmOk; rw [hyl]; exact decide_eq_false hk
    have HE : Hid (dmOk l y = false ∧ dmV l y = []) := Lib.hid ⟨hok, by unfold dmV; rw [if_neg (by rw [hok]; decide)]⟩
    obtain ⟨t, ht⟩ : ∃ t, t = rpK l y := ⟨_, rfl⟩
    rw [← ht] at K hk
    have b1 : (t != (m : Int)) = true := by simpa using hk
    clear hok ht hk
    go_enter Try.func63, Try.ntmps63
    go_wp2_with fail
    refine K.out.mono ?_
    rintro e w1 ⟨a1, n1, c1, rfl, ho, hb⟩
    have HB := Lib.hid hb
    have hs := hb.size
    clear ho hb
    go_wp2_with fail
    go_ret2
    exact ⟨_, _, _, by rw [HE.out.1]; rfl, by rw [HE.out.2]; exact OwnV.empty hs, HB.out.alloc hs _⟩
end Go.Proofs.Ytpbmmepoddbefaa
