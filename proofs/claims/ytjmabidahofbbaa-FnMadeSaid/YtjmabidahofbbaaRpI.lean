/- A message read from the beginning of its bytes, and from all of them, by the program. -/
import Derived.Test.YtjmabidahofbbaaRfI
import Derived.Test.YtjmabidahofbbaaValS
import Derived.Test.YtjmabidahofbbaaIsF3
namespace Go.Proofs.Ytjmabidahofbbaa
open Go.ChangeShapes Go.WideShapes Go.ChangeAt Go.RowKit
set_option linter.unusedVariables false

/-- The list of values is the call's own, and block gc is none of its blocks. -/
def OwnVN (gc : Nat) (tO tI : TypeId) (w : World) (B : Nat) (a : Option Addr) (n c : Nat) (l : List Vl) : Prop :=
  ∃ hs : List Vh, OwnI Vh.enc 2 tO w B a n c hs ∧ RowsV tI w B a hs l ∧ (∀ ad, a = some ad → ad.block ≠ gc) ∧ ∀ (j : Nat) (h : Vh) (ad : Addr), hs[j]? = some h → h.p = some ad → ad.block ≠ gc
section
variable {tO tI : TypeId} {w w' u : World} {B n c gc : Nat} {a : Option Addr} {l : List Vl}
theorem OwnVN.ownV (h : OwnVN gc tO tI w B a n c l) : OwnV tO tI w B a n c l := by
  obtain ⟨hs, h1, h2, _, _⟩ := h
  exact ⟨hs, h1, h2⟩
theorem OwnV.newer (h : OwnV tO tI w B a n c l) (hg : w.heap.size ≤ gc) : OwnVN gc tO tI w B a n c l := by
  obtain ⟨hs, h1, h2⟩ := h
  exact ⟨hs, h1, h2, fun ad e => by have := (h1.span ad e).2; omega, fun j g ad hk e => by have := (h2.lt hk e).2; omega⟩
theorem OwnVN.on (h : OwnVN gc tO tI w B a n c l) (hg : w.grownBy w' (some gc)) : OwnVN gc tO tI w' B a n c l := by
  obtain ⟨hs, h1, h2, h3, h4⟩ := h
  refine ⟨hs, h1.far hg fun ad e e2 => h3 ad e (Option.some.inj e2).symm, ⟨h2.1, fun j g x hk hx => ?_, h2.2.2⟩, h3, h4⟩
  obtain ⟨e, ho, hd⟩ := h2.2.1 j g x hk hx
  exact ⟨e, ho.far hg fun ad e e2 => h4 j g ad hk e (Option.some.inj e2).symm, hd⟩
theorem OwnVN.same (h : OwnVN gc tO tI w B a n c l) (hb : Below w.heap.size w w') : OwnVN gc tO tI w' B a n c l := h.on (grown_below hb _)
theorem OwnVN.slots {g : Nat} (h : OwnVN gc tO tI w B (some ⟨g, 0, none⟩) n c l) {j : Nat} (hj : j < n) : (∃ u0, w.cell? ⟨g, j * 2, none⟩ = some u0) ∧ (∃ u1, w.cell? ⟨g, j * 2 + 1, none⟩ = some u1) ∧ w.frozen? ⟨g, j * 2, none⟩ = false ∧ w.frozen? ⟨g, j * 2 + 1, none⟩ = false := by
  obtain ⟨hs, h1, _, _, _⟩ := h
  exact ⟨row_cell h1.2 (by omega), row_cell h1.2 (by omega), h1.2.frozenAt _, h1.2.frozenAt _⟩
/-- A value whose integers lie in memory that is newer than the list is put at place i, after block gc was written. -/
theorem OwnVN.put {g : Nat} (h : OwnVN gc tO tI u B (some ⟨g, 0, none⟩) n c l) (hb : u.grownBy w (some gc)) (hgc : gc < u.heap.size) {i : Nat} (hi : i < n) (k : Int) (p : Option Addr) (m d : Nat) (y : List Int) (hv : Own .i64 tI w B p m d y)
    (hf : ∀ ad, p = some ad → u.heap.size ≤ ad.block) :
    OwnVN gc tO tI ((w.setCell ⟨g, i * 2, none⟩ (.int .i64 k)).setCell ⟨g, i * 2 + 1, none⟩ (.slice p m d)) B (some ⟨g, 0, none⟩) n c (l.set i ⟨k, y⟩) ∧ w.grownBy ((w.setCell ⟨g, i * 2, none⟩ (.int .i64 k)).setCell ⟨g, i * 2 + 1, none⟩ (.slice p m d)) (some g) := by
  have hl := h.ownV.len
  have hgs := h.ownV.span _ rfl
  dsimp only at hgs
  obtain ⟨hs, h1, h2, hA, hR⟩ := h
  have hlt := fun (j : Nat) (k : Vh) (ad : Addr) (hk : hs[j]? = some k) (e : k.p = some ad) => (h2.lt hk e).2
  have h1' := h1.far hb fun ad e e2 => hA ad e (Option.some.inj e2).symm
  have h2' : RowsV tI w B (some ⟨g, 0, none⟩) hs l := ⟨h2.1, fun j g x hk hx => by
    obtain ⟨e, ho, hd⟩ := h2.2.1 j g x hk hx
    exact ⟨e, ho.far hb fun ad e e2 => hR j g ad hk e (Option.some.inj e2).symm, hd⟩, h2.2.2⟩
  have h3 := stored2 h1'.2 (i * 2) (i * 2 + 1) (.int .i64 k) (.slice p m d)
  have hih : i < hs.length := by rw [h1.len]; exact hi
  rw [flatVh_put hs i ⟨k, p, m, d⟩ hih] at h3
  refine ⟨⟨hs.set i ⟨k, p, m, d⟩, ⟨by rw [List.length_set]; exact h1.len, h3.1⟩, ⟨by rw [List.length_set, List.length_set]; exact h2.1, fun j v x hk hx => ?_, fun j j' v v' hjj hk hk' ad bd ha hb' => ?_⟩, hA, fun j v ad hk ha => ?_⟩, h3.2⟩
  · by_cases e : j = i
    · subst e
      rw [List.getElem?_set_self hih] at hk
      rw [List.getElem?_set_self (by rw [hl]; exact hi)] at hx
      cases hk
      cases hx
      refine ⟨rfl, Own.beside (b := some ⟨g, 0, none⟩) (n := n) (c := c) hv h3.2 fun ad bd ha hb' => ?_, fun ad bd ha hb' => ?_⟩
      · cases hb'
        have := hf ad ha
        dsimp only
        omega
      · cases hb'
        have := hf ad ha
        dsimp only
        omega
    · rw [List.getElem?_set_ne (by omega)] at hk hx
      obtain ⟨e1, ho, hd1⟩ := h2'.2.1 j v x hk hx
      exact ⟨e1, Own.beside (b := some ⟨g, 0, none⟩) (n := n) (c := c) ho h3.2 hd1, hd1⟩
  · by_cases e : j = i
    · subst e
      rw [List.getElem?_set_self hih] at hk
      rw [List.getElem?_set_ne (by omega)] at hk'
      cases hk
      have := hlt j' v' bd hk' hb'
      have := hf ad ha
      omega
    · rw [List.getElem?_set_ne (by omega)] at hk
      by_cases e' : j' = i
      · subst e'
        rw [List.getElem?_set_self hih] at hk'
        cases hk'
        have := hlt j v ad hk ha
        have := hf bd hb'
        omega
      · rw [List.getElem?_set_ne (by omega)] at hk'
        exact h2'.2.2 j j' v v' hjj hk hk' ad bd ha hb'
  · by_cases e : j = i
    · subst e
      rw [List.getElem?_set_self hih] at hk
      cases hk
      have := hf ad ha
      omega
    · rw [List.getElem?_set_ne (by omega)] at hk
      exact hR j v ad hk ha
end
theorem rep_put {v : List Vl} {j n : Nat} (hv : v.length = j) (hj : j < n) (x : Vl) : (v ++ List.replicate (n - j) (⟨0, []⟩ : Vl)).set j x = (v ++ [x]) ++ List.replicate (n - (j + 1)) (⟨0, []⟩ : Vl) := by
  rw [List.set_append_right _ _ (by omega), hv, Nat.sub_self, show n - j = (n - (j + 1)) + 1 by omega, List.replicate_succ, List.set_cons_zero]
  simp
theorem rep_not {v : List Vl} {j n : Nat} (hj : j < n) : v ++ List.replicate (n - j) (⟨0, []⟩ : Vl) = (v ++ [⟨0, []⟩]) ++ List.replicate (n - (j + 1)) (⟨0, []⟩ : Vl) := by
  rw [show n - j = (n - (j + 1)) + 1 by omega, List.replicate_succ]
  simp

set_option maxHeartbeats 8000000 in
set_option maxRecDepth 100000 in
theorem readPrefix_any (a : Option Addr) (n c : Nat) (l : List Fd) (b : Option Addr) (m d : Nat) (y : List Int) (w : World) (h : Fds w a n l) (hv : Nums .i64 w b m y) (hfc : n ≤ c ∧ (c : Int) ≤ 9223372036854775807) (hc : m ≤ d ∧ (d : Int) ≤ 9223372036854775807) (hn : n ≤ 1000000000) (hm : m ≤ 1000000000) :
    Calls Try.prog 59 #[.slice a n c, .slice b m d] w (RpTold 73 3 l y w) := by
  have H := Lib.hid h
  have HV := Lib.hid hv
  have hl := Lib.hid h.len
  have hyl := Lib.hid hv.len
  have KF := Lib.hid (isFormat_any a n c l w h hfc)
  obtain ⟨i0, hi, hz0, hz1, hz2⟩ := info_parts infoValueS
  have HI := Lib.hid (And.intro hi (And.intro hz0 (And.intro hz1 hz2)))
  clear h hv hi hz0 hz1 hz2
  unfold RpTold
  cases hf : isFmt l with
  | false =>
    have HE := Lib.hid (rp_none (y := y) (rdP_not hf))
    rw [hf] at KF
    clear hf
    go_enter Try.func59, Try.ntmps59
    go_wp2_with fail
    refine KF.out.mono ?_
    rintro e w1 ⟨rfl, hb1⟩
    have HB1 := Lib.hid hb1
    clear hb1
    go_wp2_with fail
    go_ret2
    exact ⟨_, _, _, by rw [HE.out.2]; rfl, by rw [HE.out.1]; exact OwnV.empty HB1.out.size, HB1.out.alloc HB1.out.size _⟩
  | true =>
    have hF := isFmt_iff.1 hf
    have hn6 : n ≤ 6 := by have := hF.1; have := hl.out; omega
    have HOK := Lib.hid hF.2
    have HSTOP := Lib.hid (fun (j : Nat) (hj : j ≤ l.length) (hr : rdTo l y j = none) => rp_none (rdP_stop hr hj))
    have HALL := Lib.hid (fun (s : List Vl) (k : Nat) (hr : rdTo l y l.length = some (s, k)) => rp_some (rdP_all hf hr))
    have HFORM := Lib.hid (fun (j k : Nat) (v : List Vl) (hj : j ≤ l.length) (hr : rdTo l y j = some (v, k)) => rdTo_form hF.2 j v k hj hr)
    rw [hf] at KF
    clear hf hF
    go_enter Try.func59, Try.ntmps59
    go_wp2_with fail
    refine KF.out.mono ?_
    rintro e w1 ⟨rfl, hb1⟩
    have HB1 := Lib.hid hb1
    clear hb1
    go_wp2_with (with_reducible refine wpList_make_full _ rfl (.tmp 17) (.tmp 17) 27 rfl w.heap.size 73 i0 (.agg #[.int .i64 0, .slice none 0 0]) 2 Try.underlying27 HI.out.1 HI.out.2.1 HI.out.2.2.1 .i64 .i64 _ _ n rfl rfl (by omega) (by omega) ?c1 ?c2 ?c3 ?_)
    case c1 => rw [HI.out.2.2.2]; omega
    case c2 => unfold maxLen; omega
    case c3 => exact HB1.out.size
    intro w2 hown hgrow
    have HB2 : Hid (Below w.heap.size w w2) := Lib.hid (HB1.out.grown hgrow HB1.out.size (fun _ e => by cases e))
    have HO2 : Hid (OwnV 73 3 w2 w.heap.size (some ⟨w1.heap.size, 0, none⟩) n n ([] ++ List.replicate (n - 0) ⟨0, []⟩)) := by
      have hm : (madeCells #[.int .i64 0, .slice none 0 0] (n * 2)).toList = flatOf Vh.enc (List.replicate n ⟨0, none, 0, 0⟩) := made2 n
      rw [hm] at hown
      exact Lib.hid (by simpa using OwnV.zeros hown)
    have hlt2 : w1.heap.size < w2.heap.size := (HO2.out.span _ rfl).2
    have hle1 : w.heap.size ≤ w1.heap.size := HB1.out.size
    clear hown hgrow
    go_wp2_with fail
    have HC3 : Hid (Cur (w2.alloc (.cells #[.slice b m d, .int .i64 0] 123)) w2.heap.size b m d 0) := Lib.hid (heap_alloc_new w2 _)
    have HO3 : Hid (OwnVN w2.heap.size 73 3 (w2.alloc (.cells #[.slice b m d, .int .i64 0] 123)) w.heap.size (some ⟨w1.heap.size, 0, none⟩) n n ([] ++ List.replicate (n - 0) ⟨0, []⟩)) := Lib.hid ((HO2.out.newer (Nat.le_refl _)).same (alloc_same _ _))
    have HB3 : Hid (Below w.heap.size w (w2.alloc (.cells #[.slice b m d, .int .i64 0] 123))) := Lib.hid (HB2.out.alloc HB2.out.size _)
    have hle2 : w.heap.size ≤ w2.heap.size := by omega
    generalize w2.heap.size = gc at *
    generalize w1.heap.size = g0 at *
    go_loopw [24] (fun i wr => ∃ (j k : Nat) (v : List Vl), i = .int .i64 j ∧ j ≤ n ∧ rdTo l y j = some (v, k) ∧ OwnVN gc 73 3 wr w.heap.size (some ⟨g0, 0, none⟩) n n (v ++ List.replicate (n - j) ⟨0, []⟩) ∧ Cur wr gc b m d k ∧ Below w.heap.size w wr) (fun i _ => n - (intOf i).toNat)
    case atStart => exact ⟨0, 0, [], rfl, Nat.zero_le _, rfl, HO3.out, HC3.out, HB3.out⟩
    case round =>
      obtain ⟨j, k, v, rfl, hj, hr, ho, hcu, hb⟩ := hrel
      have hform := HFORM.out j k v (by rw [hl.out]; exact hj) hr
      have hvj : v.length = j := hform.1
      have hkm : k ≤ m := by have := hform.2.1; rw [hyl.out] at this; exact this
      have HO := Lib.hid ho
      have HB := Lib.hid hb
      have HR := Lib.hid hr
      have HC := Lib.hid hcu
      have hgl := hcu.lt
      clear ho hb hr hcu hform
      by_cases hlt : j < n
      · have hltI : (j : Int) < (n : Int) := by omega
        obtain ⟨bb, o, ⟨xk, xm, xt, xi⟩, rfl, hx, hc0, hc1, hc2, hc3⟩ := fds_at (H.out.same HB.out) hlt
        dsimp only at hc0 hc1 hc2 hc3
        have HXW : Hid (Below wr.heap.size wr (wr.alloc (.cells #[.int .i64 xk, .int .i64 xm, .int .i64 xt, .int .i64 xi] 70))) := Lib.hid (alloc_same _ _)
        have HXH : Hid ((wr.alloc (.cells #[.int .i64 xk, .int .i64 xm, .int .i64 xt, .int .i64 xi] 70)).heap[wr.heap.size]? = some (.cells #[.int .i64 xk, .int .i64 xm, .int .i64 xt, .int .i64 xi] 70 (0, 0))) := Lib.hid (heap_alloc_new wr _)
        have hxs : (wr.alloc (.cells #[.int .i64 xk, .int .i64 xm, .int .i64 xt, .int .i64 xi] 70)).heap.size = wr.heap.size + 1 := by simp
        have HXB := Lib.hid (HB.out.trans (HXW.out.mono HB.out.size))
        have HKIND := Lib.hid (kind_in HOK.out (by rw [hl.out]; exact hlt) hx)
        have KTJ := isThere_any _ n c l (some ⟨g0, 0, none⟩) n n (v ++ List.replicate (n - j) ⟨0, []⟩) j _ (H.out.same HXB.out) (HO.out.same HXW.out).ownV.vals hn hn
        rw [isThere_part (v' := v) hx (okTo_cond HOK.out (by rw [hl.out]; exact hlt) hx) (fun q hq => List.getElem?_append_left (by omega))] at KTJ
        cases ht : isThere l v j with
        | false =>
          have HS : Hid (rdTo l y (j + 1) = some (v ++ [⟨0, []⟩], k)) := Lib.hid (by rw [rdTo_step HR.out, rdStep_not hx ht])
          rw [ht] at KTJ
          clear ht hx
          go_wp2_with fail
          refine KTJ.mono ?_
          rintro e w2 ⟨rfl, hb2⟩
          have HW2 := Lib.hid (HXW.out.trans (hb2.mono HXW.out.size))
          have HB2 := Lib.hid (HB.out.trans (HW2.out.mono HB.out.size))
          clear hb2 KTJ hc0 hc1 hc2 hc3
          go_wp2_with fail
          go_roundw
          case rel => exact ⟨j + 1, k, _, by go_num, by omega, HS.out, by rw [← rep_not hlt]; exact HO.out.same HW2.out, HC.out.same HW2.out, HB2.out⟩
          case measure => simp [intOf]; omega
        | true =>
          have HS := Lib.hid (rdTo_step HR.out)
          have HT := Lib.hid (rdStep_there (b := y) (k := k) hx ht)
          rw [ht] at KTJ
          clear ht hx
          go_wp2_with fail
          refine KTJ.mono ?_
          rintro e w2 ⟨rfl, hb2⟩
          have HW2 := Lib.hid (HXW.out.trans (hb2.mono HXW.out.size))
          have HB2 := Lib.hid (HB.out.trans (HW2.out.mono HB.out.size))
          have hx2 : w2.heap[wr.heap.size]? = some (.cells #[.int .i64 xk, .int .i64 xm, .int .i64 xt, .int .i64 xi] 70 (0, 0)) := by rw [hb2.block _ (by omega)]; exact HXH.out
          have HO2 := Lib.hid (HO.out.same HW2.out)
          have HC2 := Lib.hid (HC.out.same HW2.out)
          have hgl2 : gc < w2.heap.size := Nat.lt_of_lt_of_le hgl HW2.out.size
          have x0 := (block_cell hx2 0).trans rfl
          have x1 := (block_cell hx2 1).trans rfl
          have x2 := (block_cell hx2 2).trans rfl
          have x3 := (block_cell hx2 3).trans rfl
          have KRJ := readField_any ⟨xk, xm, xt, xi⟩ gc b m d k y w2 HC2.out (fun w' hg => HV.out.same (HB2.out.grown hg HB2.out.size (fun q e => by cases e; exact hle2))) hc hm hkm HKIND.out
          unfold Fd.val RfTold at KRJ
          clear hb2 KTJ hc0 hc1 hc2 hc3 hx2
          go_wp2_with fail
          clear x0 x1 x2 x3
          cases hrd : rdF ⟨xk, xm, xt, xi⟩ y k with
          | none =>
            rw [hrd] at KRJ
            have HE := Lib.hid (HSTOP.out (j + 1) (by rw [hl.out]; omega) (by rw [HS.out, HT.out, hrd]; rfl))
            clear hrd
            refine KRJ.mono ?_
            rintro e w3 ⟨rfl, hg3⟩
            have HB3 := Lib.hid (HB2.out.grown hg3 HB2.out.size (fun q e => by cases e; exact hle2))
            have hs3 := HB3.out.size
            have HEM : Hid (OwnV 73 3 ((w3.alloc (.cells #[.int .i64 0, .slice none 0 0] 73)).alloc (.cells #[] 73)) w.heap.size (some ⟨w3.heap.size + 1, 0, none⟩) 0 0 []) := Lib.hid (by
              have := OwnV.empty (tO := 73) (tI := 3) (w := w3.alloc (.cells #[.int .i64 0, .slice none 0 0] 73)) (B := w.heap.size) (by simp; omega)
              rw [show (w3.alloc (.cells #[.int .i64 0, .slice none 0 0] 73)).heap.size = w3.heap.size + 1 by simp] at this
              exact this)
            clear hg3
            go_wp2_with fail
            go_ret2
            exact ⟨_, _, _, by rw [HE.out.2]; rfl, by rw [HE.out.1]; exact HEM.out, (HB3.out.alloc (by omega) _).alloc (by simp; omega) _⟩
          | some s =>
            obtain ⟨⟨zn, zi⟩, k2⟩ := s
            rw [hrd] at KRJ
            have HN : Hid (rdTo l y (j + 1) = some (v ++ [⟨zn, zi⟩], k2)) := Lib.hid (by rw [HS.out, HT.out, hrd]; rfl)
            clear hrd
            refine KRJ.mono ?_
            rintro e w3 ⟨p, q, g, rfl, ho3, hc3, hg3⟩
            dsimp only at ho3
            have hs3 := hg3.size
            have HA : Hid (Below w3.heap.size w3 (w3.alloc (.cells #[.int .i64 zn, .slice p q g] 73))) := Lib.hid (alloc_same _ _)
            have HG4 := Lib.hid (hg3.trans (grown_below HA.out (some gc)))
            have HB4 := Lib.hid (HB2.out.grown HG4.out HB2.out.size (fun q e => by cases e; exact hle2))
            have hs2 := HB2.out.size
            have hput := OwnVN.put HO2.out HG4.out hgl2 hlt zn p q g zi ((ho3.lower hs2).same HA.out) (fun ad e => (ho3.span ad e).1)
            rw [rep_put hvj hlt] at hput
            have HP := Lib.hid hput
            obtain ⟨⟨u0, hu0⟩, ⟨u1, hu1⟩, hf0, hf1⟩ := ((HO2.out.on HG4.out)).slots hlt
            have HC4 := Lib.hid (hc3.same HA.out)
            have hL : (w3.alloc (.cells #[.int .i64 zn, .slice p q g] 73)).heap[w3.heap.size]? = some (.cells #[.int .i64 zn, .slice p q g] 73 (0, 0)) := heap_alloc_new w3 _
            obtain ⟨l0, l1, _, _⟩ := two_cells hL
            have hne : gc ≠ g0 := by omega
            clear hput ho3 hc3 hg3 hL
            go_wp2_with fail
            go_roundw
            case rel => exact ⟨j + 1, k2, _, by go_num, by omega, HN.out, HP.out.1, (HC4.out.set1 hne _ _).set1 hne _ _, grown_to (b := some ⟨g0, 0, none⟩) (m := n) (d := n) HP.out.2 HB4.out (lo := w.heap.size) (hi := g0 + 1) (fun ad e => by cases e; exact ⟨hle1, Nat.lt_succ_self _⟩) (Nat.le_refl _) HB4.out.size⟩
            case measure => simp [intOf]; omega
      · obtain rfl : j = n := by omega
        have HE := Lib.hid (HALL.out v k (by rw [hl.out]; exact HR.out))
        have hcur := HC.out
        unfold Cur at hcur
        obtain ⟨c0, c1, _, _⟩ := two_cells hcur
        have HOF := Lib.hid (HO.out.ownV)
        rw [Nat.sub_self, List.replicate_zero, List.append_nil] at HOF
        clear hcur
        go_wp2_with fail
        go_quiet (fail)
        go_wp2_with fail
        go_ret2
        exact ⟨_, _, _, by rw [HE.out.2]; rfl, by rw [HE.out.1]; exact HOF.out.same (drewN_same _ _), HB.out.trans ((drewN_same _ _).mono HB.out.size)⟩
set_option maxHeartbeats 2000000 in
set_option maxRecDepth 100000 in
theorem decodeMessage_any (a : Option Addr) (n c : Nat) (l : List Fd) (b : Option Addr) (m d : Nat) (y : List Int) (w : World) (h : Fds w a n l) (hv : Nums .i64 w b m y) (hfc : n ≤ c ∧ (c : Int) ≤ 9223372036854775807) (hc : m ≤ d ∧ (d : Int) ≤ 9223372036854775807) (hn : n ≤ 1000000000) (hm : m ≤ 1000000000) :
    Calls Try.prog 16 #[.slice a n c, .slice b m d] w (DmTold 73 3 l y w) := by
  have K := Lib.hid (readPrefix_any a n c l b m d y w h hv hfc hc hn hm)
  have hyl := hv.len
  clear h hv
  unfold RpTold at K
  unfold DmTold
  by_cases hk : rpK l y = (m : Int)
  · have hok : dmOk l y = true := by unfold dmOk; rw [hyl]; exact decide_eq_true hk
    have HE : Hid (dmOk l y = true ∧ dmV l y = rpV l y) := Lib.hid ⟨hok, by unfold dmV; rw [if_pos hok]⟩
    rw [hk] at K
    clear hk hok
    go_enter Try.func16, Try.ntmps16
    go_wp2_with fail
    refine K.out.mono ?_
    rintro e w1 ⟨a1, n1, c1, rfl, ho, hb⟩
    have HB := Lib.hid hb
    have HO := Lib.hid ho
    clear ho hb
    go_wp2_with fail
    go_ret2
    exact ⟨_, _, _, by rw [HE.out.1]; rfl, by rw [HE.out.2]; exact HO.out, HB.out⟩
  · have hok : dmOk l y = false := by unfold dmOk; rw [hyl]; exact decide_eq_false hk
    have HE : Hid (dmOk l y = false ∧ dmV l y = []) := Lib.hid ⟨hok, by unfold dmV; rw [if_neg (by rw [hok]; decide)]⟩
    obtain ⟨t, ht⟩ : ∃ t, t = rpK l y := ⟨_, rfl⟩
    rw [← ht] at K hk
    have b1 : (t != (m : Int)) = true := by simpa using hk
    clear hok ht hk
    go_enter Try.func16, Try.ntmps16
    go_wp2_with fail
    refine K.out.mono ?_
    rintro e w1 ⟨a1, n1, c1, rfl, ho, hb⟩
    have HB := Lib.hid hb
    have hs := hb.size
    clear ho hb
    go_wp2_with fail
    go_ret2
    exact ⟨_, _, _, by rw [HE.out.1]; rfl, by rw [HE.out.2]; exact OwnV.empty hs, HB.out.alloc hs _⟩
end Go.Proofs.Ytjmabidahofbbaa
