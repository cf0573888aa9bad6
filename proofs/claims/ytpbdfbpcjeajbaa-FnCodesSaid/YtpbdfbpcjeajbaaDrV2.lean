/- A format and a list of values are drawn, perhaps with a fault. -/
import Derived.Test.YtpbdfbpcjeajbaaDrV1
import Derived.Test.YtpbdfbpcjeajbaaDrF2
import Derived.Deep.RegionHeld3
namespace Go.Proofs.Ytpbdfbpcjeajbaa
open Go.ChangeShapes Go.WideShapes Go.ChangeAt Go.RowKit
set_option linter.unusedVariables false
set_option linter.unusedSimpArgs false

theorem Vok.set {r : Nat} {v : List Vl} {k : Int} {y : List Int} (h : Vok r v) (i : Nat) (hk : I64 k) (hy : ∀ z ∈ y, I64 z) (hl : y.length ≤ r) : Vok r (v.set i ⟨k, y⟩) := fun x hx => by
  obtain ⟨j, hj⟩ := List.getElem?_of_mem hx
  by_cases e : j = i
  · subst e
    have hlt := lt_of_some hj
    rw [List.length_set] at hlt
    rw [List.getElem?_set_self hlt] at hj
    cases hj
    exact ⟨⟨hk, hy⟩, hl⟩
  · rw [List.getElem?_set_ne (by omega)] at hj
    exact h x (List.mem_of_getElem? hj)
/-- What is left of a draw: a list of fields, and the cursor. -/
structure Fin2 (b : Nat) (a : Option Addr) (n c : Nat) (w : World) (B1 : Nat) (f : Option Addr) (fn fc : Nat) (l : List Fd) (X : World) : Prop where
  cu : Curs w b a n c
  dr : Drawn b a n c w X
  fd : OwnF 57 X w.heap.size f fn fc l
  fl : ∀ ad, f = some ad → ad.block < B1
  ge : w.heap.size ≤ B1
section
variable {b : Nat} {a : Option Addr} {n c : Nat} {w : World} {B1 : Nat} {f : Option Addr} {fn fc : Nat} {l : List Fd} {X X' : World} {g m co : Nat} {hs : List Vh} {v : List Vl}
theorem Fin2.far {row : Option Nat} (h : Fin2 b a n c w B1 f fn fc l X) (hg : X.grownBy X' row) (hr : ∀ r, row = some r → B1 ≤ r) : Fin2 b a n c w B1 f fn fc l X' := by
  have hge := h.ge
  exact ⟨h.cu, h.dr.under h.cu ((Below.refl _ X).grown hg h.dr.2.size (fun r e => Nat.le_trans hge (hr r e))) (Nat.le_refl _), h.fd.far hg (fun ad e q => by
    have := h.fl ad e
    have := hr _ q
    omega), h.fl, hge⟩
theorem Fin2.only (h : Fin2 b a n c w B1 f fn fc l X) (hd : Drawn b a n c X X') : Fin2 b a n c w B1 f fn fc l X' :=
  ⟨h.cu, h.dr.trans hd, h.fd.only hd.2 h.fd.span (Or.inl h.cu.lt), h.fl, h.ge⟩
theorem Fin2.same (h : Fin2 b a n c w B1 f fn fc l X) (hb : Below X.heap.size X X') : Fin2 b a n c w B1 f fn fc l X' := ⟨h.cu, h.dr.same hb, h.fd.same hb, h.fl, h.ge⟩
/-- A list of values beside it. -/
structure Two (b : Nat) (a : Option Addr) (n c : Nat) (w : World) (B1 : Nat) (f : Option Addr) (fn fc : Nat) (l : List Fd) (g m co : Nat) (hs : List Vh) (v : List Vl) (X : World) : Prop where
  fin : Fin2 b a n c w B1 f fn fc l X
  own : OwnI Vh.enc 2 66 X B1 (some ⟨g, 0, none⟩) m co hs
  row : RowsV 3 X B1 (some ⟨g, 0, none⟩) hs v
theorem Two.ownV (h : Two b a n c w B1 f fn fc l g m co hs v X) : OwnV 66 3 X B1 (some ⟨g, 0, none⟩) m co v := ⟨hs, h.own, h.row⟩
theorem Two.only (h : Two b a n c w B1 f fn fc l g m co hs v X) (hd : Drawn b a n c X X') : Two b a n c w B1 f fn fc l g m co hs v X' := by
  have hb := h.fin.cu.lt
  have hge := h.fin.ge
  exact ⟨h.fin.only hd, h.own.only hd.2 h.own.span (Or.inl (by omega)), h.row.1, fun j q x hq hx => by
    obtain ⟨e, ho, hdd⟩ := h.row.2.1 j q x hq hx
    exact ⟨e, ho.far (only_grown hd.2) (fun ad e2 q2 => by
      have := (ho.span ad e2).1
      cases q2
      omega), hdd⟩, h.row.2.2⟩
theorem Two.same (h : Two b a n c w B1 f fn fc l g m co hs v X) (hb : Below X.heap.size X X') : Two b a n c w B1 f fn fc l g m co hs v X' := ⟨h.fin.same hb, h.own.same hb, h.row.same hb⟩
theorem Two.hdr (h : Two b a n c w B1 f fn fc l g m co hs v X) {k : Nat} {u : Vh} (hk : hs[k]? = some u) : X.cell? ⟨g, k * 2 + 1, none⟩ = some (.slice u.p u.m u.c) := by
  obtain ⟨bb, o, e, hc⟩ := (h.own.items Vh.enc_len).cell k u hk
  cases e
  have := hc 1 _ rfl
  rw [Nat.zero_add] at this
  exact this
theorem Two.ge2 (h : Two b a n c w B1 f fn fc l g m co hs v X) : B1 ≤ g := (h.own.span _ rfl).1
/-- The rows of the list, behind an append onto one value's integers. -/
theorem Two.kept (h : Two b a n c w B1 f fn fc l g m co hs v X) {k : Nat} {u : Vh} {x : Vl} (hk : hs[k]? = some u) (hx : v[k]? = some x) (hg : X.grownBy X' (Value.ownBlock (.slice u.p u.m u.c))) : OwnI Vh.enc 2 66 X' B1 (some ⟨g, 0, none⟩) m co hs ∧ Fin2 b a n c w B1 f fn fc l X' := by
  obtain ⟨_, ho, hd⟩ := h.row.2.1 k u x hk hx
  have hrow : ∀ ad, Value.ownBlock (.slice u.p u.m u.c) = some ad → ∃ bd, u.p = some bd ∧ bd.block = ad := fun ad e => by
    cases hvp : u.p with
    | none => rw [hvp] at e; simp [Value.ownBlock] at e
    | some bd => rw [hvp] at e; simp only [Value.ownBlock, Option.some.injEq] at e; exact ⟨bd, rfl, e⟩
  exact ⟨h.own.far hg fun ad e e2 => by
    cases e
    obtain ⟨bd, hb, hbb⟩ := hrow _ e2
    exact hd bd _ hb rfl hbb, h.fin.far hg fun r e => by
    obtain ⟨bd, hb, hbb⟩ := hrow _ e
    rw [← hbb]
    exact (ho.span bd hb).1⟩
end
/-- What a draw of a format and a message leaves. -/
def DrewFV (b : Nat) (a : Option Addr) (n c : Nat) (w : World) (e : Ending) (w' : World) : Prop :=
  ∃ (f : Option Addr) (fn fc : Nat) (l : List Fd) (ao : Option Addr) (m co : Nat) (v : List Vl), e = .returned (.tuple #[.slice f fn fc, .slice ao m co]) ∧ OwnF 57 w' w.heap.size f fn fc l ∧ fn ≤ 7 ∧ FM l ∧ OwnV 66 3 w' w.heap.size ao m co v ∧ m ≤ 6 ∧ Vok 6 v ∧ Drawn b a n c w w'

set_option maxHeartbeats 8000000 in
set_option maxRecDepth 100000 in
theorem anyV_any (b : Nat) (a : Option Addr) (n c : Nat) (w : World) (hc : Curs w b a n c) :
    Calls Try.prog 62 #[.pointer (some ⟨b, 0, none⟩)] w (DrewFV b a n c w) := by
  have HC := Lib.hid hc
  have hb := hc.lt
  clear hc
  obtain ⟨i0, hi, hz0, hz1, hz2⟩ := info_parts infoValueS
  have HI := Lib.hid (And.intro hi (And.intro hz0 (And.intro hz1 hz2)))
  clear hi hz0 hz1 hz2
  obtain ⟨i1, hi, hz0, hz1, hz2⟩ := info_parts infoIntS
  have HJ := Lib.hid (And.intro hi (And.intro hz0 (And.intro hz1 hz2)))
  clear hi hz0 hz1 hz2
  go_enter Try.func62, Try.ntmps62
  go_wp2_with fail
  refine (drawF_any b a n c w HC.out).mono ?_
  rintro e w1 ⟨gf, fn, fc, l, rfl, ho1, hm1, hm5, hfm, hd1⟩
  have hgf := ho1.span _ rfl
  dsimp only at hgf
  have hfb : ∀ ad : Addr, some (⟨gf, 0, none⟩ : Addr) = some ad → ad.block ≠ b := fun ad e => by
    cases e
    dsimp only
    omega
  go_wp2_with fail
  refine (drawV_any b a n c (some ⟨gf, 0, none⟩) fn fc l w1 hd1.1 (ho1.items Fd.enc_len) hfm (by omega) hfb).mono ?_
  rintro e w2 ⟨ao, co, v, rfl, ho2, hv2, hd2⟩
  obtain ⟨hs, hI2, hR2⟩ := ho2
  obtain ⟨g, rfl, hg1, hg2⟩ := hI2.head (by omega)
  have hT2 : Two b a n c w w1.heap.size (some ⟨gf, 0, none⟩) fn fc l g fn co hs v w2 := ⟨⟨HC.out, hd1.trans hd2, ho1.only hd2.2 ho1.span (Or.inl hb), fun ad e => by cases e; exact hgf.2, hd1.2.size⟩, hI2, hR2⟩
  have hlen : v.length = fn := by rw [← hR2.1, hI2.len]
  have HLN := Lib.hid hlen
  have HVK5 := Lib.hid hv2
  have HVK := Lib.hid (hv2.mono (show 5 ≤ 6 by omega))
  have HFM := Lib.hid hfm
  have HTW := Lib.hid hT2
  clear ho1 hd1 hd2 hI2 hR2 hT2 hv2 hfb hfm hlen
  generalize w1.heap.size = B1 at *
  go_wp2_with fail
  refine (below_any b a n c (fn : Int) (by omega) (by omega) w2 HTW.out.fin.dr.1).mono ?_
  rintro e w3 ⟨x, hx0, hx1, rfl, hd3⟩
  obtain ⟨k, rfl⟩ : ∃ k : Nat, x = k := ⟨x.toNat, by omega⟩
  have hkm : k < fn := by omega
  replace HTW := Lib.hid (HTW.out.only hd3)
  clear hd3
  go_wp2_with fail
  refine (below_any b a n c 10 (by omega) (by omega) w3 HTW.out.fin.dr.1).mono ?_
  rintro e w4 ⟨y, hy0, hy1, rfl, hd4⟩
  replace HTW := Lib.hid (HTW.out.only hd4)
  clear hd4
  have hB1 := HTW.out.fin.ge
  have hgB := HTW.out.ge2
  obtain ⟨vx, hvx⟩ : ∃ vx, v[k]? = some vx := ⟨_, List.getElem?_eq_getElem (by rw [HLN.out]; exact hkm)⟩
  obtain ⟨⟨hn, hp, hm, hcc⟩, hhk⟩ : ∃ u : Vh, hs[k]? = some u := ⟨_, List.getElem?_eq_getElem (by rw [HTW.out.row.1, HLN.out]; exact hkm)⟩
  have HVX := Lib.hid hvx
  have HHK := Lib.hid hhk
  have hokx := HVK5.out vx (List.mem_of_getElem? hvx)
  have HOX := Lib.hid hokx
  clear hvx hhk hokx
  by_cases q0 : y = 0
  · have b0 : (y == 0) = true := by simpa using q0
    clear q0
    go_wp2_with fail
    refine (pickNew b a n c [-1, 1, 10, 99, 9223372036854775807] 5 (by omega) (by omega) rfl rfl w4 HTW.out.fin.dr.1).mono ?_
    rintro e w5 ⟨z, hz, rfl, hd5⟩
    have hzi : I64 z := list_i64 (l := [-1, 1, 10, 99, 9223372036854775807]) (by decide) hz
    have HT5 := Lib.hid (HTW.out.only hd5)
    have fz := HT5.out.own.2.frozenAt (k * 2)
    obtain ⟨u, hu⟩ := row_cell HT5.out.own.2 (k := k * 2) (by omega)
    have hpn := HT5.out.ownV.putNum HVX.out z
    have HPV := Lib.hid hpn.1
    have HPF := Lib.hid (HT5.out.fin.far hpn.2 (fun r e => by cases e; exact hgB))
    have HVK2 := Lib.hid (HVK.out.set k hzi HOX.out.1.2 (Nat.le_trans HOX.out.2 (by omega)))
    clear hd5 hz hpn
    go_wp2_with fail
    refine (once_any b a n c 10 (by omega) (by omega) _ HPF.out.dr.1).mono ?_
    rintro e w8 ⟨tb, rfl, hd8⟩
    have HF8 := Lib.hid (HPF.out.only hd8)
    have HV8 := Lib.hid (HPV.out.only hd8.2 (by omega))
    clear hd8
    cases tb with
    | true =>
      go_wp2_with fail
      refine (anyF_any b a n c w8 HF8.out.dr.1).mono ?_
      rintro e w9 ⟨f9, m9, c9, l9, rfl, ho9, hm9, hfm9, hd9⟩
      have HV9 := Lib.hid (HV8.out.only hd9.2 (by omega))
      have HF9 := Lib.hid (ho9.lower HF8.out.dr.2.size)
      have HD9 := Lib.hid (HF8.out.dr.trans hd9)
      clear ho9 hd9
      go_wp2_with fail
      go_ret2
      exact ⟨_, _, _, l9, _, _, _, _, rfl, HF9.out, hm9, hfm9, HV9.out.lower hB1, by omega, HVK2.out, HD9.out⟩
    | false =>
      go_wp2_with fail
      go_ret2
      exact ⟨_, _, _, l, _, _, _, _, rfl, HF8.out.fd, by omega, HFM.out, HV8.out.lower hB1, by omega, HVK2.out, HF8.out.dr⟩
  have b0 : (y == 0) = false := by simpa using q0
  by_cases q1 : y = 1
  · have b1 : (y == 1) = true := by simpa using q1
    clear q1
    go_wp2_with fail
    have HTW0 := Lib.hid (HTW.out.same (Below.refl _ w4).drew)
    refine wp_region_held_drew (S := fun _ => True) (by kernel_rfl) trivial (fun hHeld => ?_)
    refine wpAnyH_take (i := 0) (v := ?v1) (by simp only [List.getElem?_toArray, List.getElem?_cons_succ, List.getElem?_cons_zero]; rfl) (by kernel_rfl) (by kernel_rfl) (by kernel_rfl) (by exact fun _ _ _ h => h) (Or.inl ⟨by rfl, fun w9 hS9 => ?hy1⟩) hHeld ?rest1
    case hy1 =>
      clear hS9
      go_simp
      try with_reducible rfl
    try simp only [Act.put, List.setIfInBounds_toArray, List.set_cons_zero, List.set_cons_succ]
    refine wpAnyH_take (i := 1) (v := ?v2) (by simp only [List.getElem?_toArray, List.getElem?_cons_succ, List.getElem?_cons_zero]; rfl) (by kernel_rfl) (by kernel_rfl) (by kernel_rfl) (by exact fun _ _ _ h => h) (Or.inl ⟨by rfl, fun w9 hS9 => ?hy2⟩) hHeld ?rest2
    case hy2 =>
      clear hS9
      go_simp
      try with_reducible rfl
    try simp only [Act.put, List.setIfInBounds_toArray, List.set_cons_zero, List.set_cons_succ]
    refine wpAnyH_take (i := 2) (v := ?v3) (by simp only [List.getElem?_toArray, List.getElem?_cons_succ, List.getElem?_cons_zero]; rfl) (by kernel_rfl) (by kernel_rfl) (by kernel_rfl) (by exact fun _ _ _ h => h) (Or.inl ⟨by rfl, fun w9 hS9 => ?hy3⟩) hHeld ?rest3
    case hy3 =>
      clear hS9
      go_simp
      try with_reducible rfl
    try simp only [Act.put, List.setIfInBounds_toArray, List.set_cons_zero, List.set_cons_succ]
    refine wpAnyH_take (i := 3) (v := ?v4) (by simp only [List.getElem?_toArray, List.getElem?_cons_succ, List.getElem?_cons_zero]; rfl) (by kernel_rfl) (by kernel_rfl) (by kernel_rfl) (by exact fun _ _ _ h => h) (Or.inl ⟨by rfl, fun w9 hS9 => ?hy4⟩) hHeld ?rest4
    case hy4 =>
      clear hS9
      go_simp
      try with_reducible rfl
    try simp only [Act.put, List.setIfInBounds_toArray, List.set_cons_zero, List.set_cons_succ]
    refine wpAnyH_take (i := 4) (v := ?v5) (by simp only [List.getElem?_toArray, List.getElem?_cons_succ, List.getElem?_cons_zero]; rfl) (by kernel_rfl) (by kernel_rfl) (by kernel_rfl) (by exact fun _ _ _ h => h) (Or.inl ⟨by rfl, fun w9 hS9 => ?hy5⟩) hHeld ?rest5
    case hy5 =>
      clear hS9
      go_simp
      try with_reducible rfl
    try simp only [Act.put, List.setIfInBounds_toArray, List.set_cons_zero, List.set_cons_succ]
    refine wpAnyH_take (i := 5) (v := ?v6) (by simp only [List.getElem?_toArray, List.getElem?_cons_succ, List.getElem?_cons_zero]; rfl) (by kernel_rfl) (by kernel_rfl) (by kernel_rfl) (by exact fun _ _ _ h => h) (Or.inl ⟨by rfl, fun w9 hS9 => ?hy6⟩) hHeld ?rest6
    case hy6 =>
      clear hS9
      go_simp
      try with_reducible rfl
    try simp only [Act.put, List.setIfInBounds_toArray, List.set_cons_zero, List.set_cons_succ]
    refine wpAnyH_take (i := 7) (v := ?v7) (by simp only [List.getElem?_toArray, List.getElem?_cons_succ, List.getElem?_cons_zero]; rfl) (by kernel_rfl) (by kernel_rfl) (by kernel_rfl) (by exact fun _ _ _ h => h) (Or.inl ⟨by rfl, fun w9 hS9 => ?hy7⟩) hHeld ?rest7
    case hy7 =>
      clear hS9
      go_simp
      try with_reducible rfl
    try simp only [Act.put, List.setIfInBounds_toArray, List.set_cons_zero, List.set_cons_succ]
    refine wpAnyH_ready (rs := [6, 8]) (by kernel_rfl) (by simp) (AllReadyH.cons (by simp only [List.getElem?_toArray, List.getElem?_cons_succ, List.getElem?_cons_zero]; rfl) (fun K hK => ?_) (AllReadyH.cons (by simp only [List.getElem?_toArray, List.getElem?_cons_succ, List.getElem?_cons_zero]; rfl) (fun K hK => ?_) AllReadyH.nil))
    · skip
      have q1 := HTW0.out.hdr HHK.out
      dsimp only at q1
      go_simp
      refine hK.out _ _ trivial (fun hHeld => ?_)
      clear hK K
      try simp only [Act.put, List.setIfInBounds_toArray, List.set_cons_zero, List.set_cons_succ]
      refine wpAnyH_ready (rs := [8]) (by kernel_rfl) (by simp) (AllReadyH.cons (by simp only [List.getElem?_toArray, List.getElem?_cons_succ, List.getElem?_cons_zero]; rfl) (fun K hK => ?_) AllReadyH.nil)
      have TA := Lib.hid (HTW0.out.same (alloc_same w4.drew (.cells #[.int .i64 0, .int .i64 99, .int .i64 100, .int .i64 255, .int .i64 256, .int .i64 (-1)] 3)))
      go_simp
      refine hK.out _ _ trivial (fun hHeld => ?_)
      clear hK K
      try simp only [Act.put, List.setIfInBounds_toArray, List.set_cons_zero, List.set_cons_succ]
      refine wpAnyH_ready (rs := [9]) (by kernel_rfl) (by simp) (AllReadyH.cons (by simp only [List.getElem?_toArray, List.getElem?_cons_succ, List.getElem?_cons_zero]; rfl) (fun K hK => ?_) AllReadyH.nil)
      go_simp
      refine (pickNew b a n c [0, 99, 100, 255, 256, -1] 6 (by omega) (by omega) rfl rfl w4.drew HTW0.out.fin.dr.1).mono ?_
      rintro e x1 ⟨z, hz, rfl, hdz⟩
      have hzi : I64 z := list_i64 (l := [0, 99, 100, 255, 256, -1]) (by decide) hz
      have TB := Lib.hid (HTW0.out.only hdz)
      clear hdz hz
      go_wp2_with fail
      refine hK.out _ _ trivial (fun hHeld => ?_)
      clear hK K
      try simp only [Act.put, List.setIfInBounds_toArray, List.set_cons_zero, List.set_cons_succ]
      refine wpAnyH_ready (rs := [10]) (by kernel_rfl) (by simp) (AllReadyH.cons (by simp only [List.getElem?_toArray, List.getElem?_cons_succ, List.getElem?_cons_zero]; rfl) (fun K hK => ?_) AllReadyH.nil)
      have TC := Lib.hid (TB.out.same (alloc_same x1 (.cells #[.int .i64 z] 3)))
      have NB := Lib.hid (nums_new x1 .i64 z 3)
      go_simp
      refine hK.out _ _ trivial (fun hHeld => ?_)
      clear hK K
      try simp only [Act.put, List.setIfInBounds_toArray, List.set_cons_zero, List.set_cons_succ]
      refine wpAnyH_ready (rs := [11]) (by kernel_rfl) (by simp) (AllReadyH.cons (by simp only [List.getElem?_toArray, List.getElem?_cons_succ, List.getElem?_cons_zero]; rfl) (fun K hK => ?_) AllReadyH.nil)
      have ho := (TC.out.row.2.1 k _ vx HHK.out HVX.out).2.1
      dsimp only at ho
      have hol := ho.len
      have hszb := TC.out.own.span _ rfl
      dsimp only at hszb
      have HOI := Lib.hid ho
      have hox := HOX.out.2
      clear ho
      refine step_app3 _ (by rfl) (.tmp 35) (.tmp 39) 28 (by rfl) .i64 3 i1 (.int .i64 0) 8 Try.underlying28 HJ.out.1 HJ.out.2.1 HJ.out.2.2.1 HJ.out.2.2.2 rfl (by rfl) HOI.out (by rfl) NB.out (by omega) (by omega) (by omega) (by omega) ?_
      intro p2 d2 x2 ho2 hg2 hw2
      have HK2 := Lib.hid (TC.out.kept HHK.out HVX.out hg2)
      have hpi := OwnV.putItems TC.out.ownV HVX.out TC.out.own TC.out.row HHK.out hg2 ho2 (fun ad e => by
        rcases hw2 ad e with q | q
        · exact Or.inl q
        · exact Or.inr (by omega))
      have HPV := Lib.hid hpi.1
      have HPF := Lib.hid (HK2.out.2.far hpi.2 (fun r e => by cases e; exact hgB))
      have HVK2 := Lib.hid (HVK.out.set k HOX.out.1.1 (y := vx.items ++ [z]) (fun u hu => by
        rcases List.mem_append.1 hu with e | e
        · exact HOX.out.1.2 u e
        · rw [List.mem_singleton.1 e]; exact hzi) (by rw [List.length_append]; simp; omega))
      clear ho2 hg2 hw2 hpi
      refine hK.out _ _ trivial (fun hHeld => ?_)
      clear hK K
      try simp only [Act.put, List.setIfInBounds_toArray, List.set_cons_zero, List.set_cons_succ]
      refine wpAnyH_take (i := 12) (v := ?v8) (by simp only [List.getElem?_toArray, List.getElem?_cons_succ, List.getElem?_cons_zero]; rfl) (by kernel_rfl) (by kernel_rfl) (by kernel_rfl) (by exact fun _ _ _ h => h) (Or.inl ⟨by rfl, fun w9 hS9 => ?hy8⟩) hHeld ?rest8
      case hy8 =>
        clear hS9
        go_simp
        try with_reducible rfl
      try simp only [Act.put, List.setIfInBounds_toArray, List.set_cons_zero, List.set_cons_succ]
      refine wpAnyH_take (i := 13) (v := ?v9) (by simp only [List.getElem?_toArray, List.getElem?_cons_succ, List.getElem?_cons_zero]; rfl) (by kernel_rfl) (by kernel_rfl) (by kernel_rfl) (by exact fun _ _ _ h => h) (Or.inl ⟨by rfl, fun w9 hS9 => ?hy9⟩) hHeld ?rest9
      case hy9 =>
        clear hS9
        go_simp
        try with_reducible rfl
      try simp only [Act.put, List.setIfInBounds_toArray, List.set_cons_zero, List.set_cons_succ]
      refine wpAnyH_ready (rs := [14]) (by kernel_rfl) (by simp) (AllReadyH.cons (by simp only [List.getElem?_toArray, List.getElem?_cons_succ, List.getElem?_cons_zero]; rfl) (fun K hK => ?_) AllReadyH.nil)
      have r1 := HK2.out.1.2.frozenAt (k * 2 + 1)
      obtain ⟨u9, hu9⟩ := row_cell HK2.out.1.2 (k := k * 2 + 1) (by omega)
      go_simp
      refine hK.out _ _ trivial (fun hHeld => ?_)
      clear hK K
      try simp only [Act.put, List.setIfInBounds_toArray, List.set_cons_zero, List.set_cons_succ]
      refine wpAnyH_done (by kernel_rfl) ?_ _
      go_wp2_with fail
      refine (once_any b a n c 10 (by omega) (by omega) _ HPF.out.dr.1).mono ?_
      rintro e w8 ⟨tb, rfl, hd8⟩
      have HF8 := Lib.hid (HPF.out.only hd8)
      have HV8 := Lib.hid (HPV.out.only hd8.2 (by omega))
      clear hd8
      cases tb with
      | true =>
        go_wp2_with fail
        refine (anyF_any b a n c w8 HF8.out.dr.1).mono ?_
        rintro e w9 ⟨f9, m9, c9, l9, rfl, ho9, hm9, hfm9, hd9⟩
        have HV9 := Lib.hid (HV8.out.only hd9.2 (by omega))
        have HF9 := Lib.hid (ho9.lower HF8.out.dr.2.size)
        have HD9 := Lib.hid (HF8.out.dr.trans hd9)
        clear ho9 hd9
        go_wp2_with fail
        go_ret2
        exact ⟨_, _, _, l9, _, _, _, _, rfl, HF9.out, hm9, hfm9, HV9.out.lower hB1, by omega, HVK2.out, HD9.out⟩
      | false =>
        go_wp2_with fail
        go_ret2
        exact ⟨_, _, _, l, _, _, _, _, rfl, HF8.out.fd, by omega, HFM.out, HV8.out.lower hB1, by omega, HVK2.out, HF8.out.dr⟩
    · skip
      have TA := Lib.hid (HTW0.out.same (alloc_same w4.drew (.cells #[.int .i64 0, .int .i64 99, .int .i64 100, .int .i64 255, .int .i64 256, .int .i64 (-1)] 3)))
      go_simp
      refine hK.out _ _ trivial (fun hHeld => ?_)
      clear hK K
      try simp only [Act.put, List.setIfInBounds_toArray, List.set_cons_zero, List.set_cons_succ]
      refine wpAnyH_ready (rs := [6, 9]) (by kernel_rfl) (by simp) (AllReadyH.cons (by simp only [List.getElem?_toArray, List.getElem?_cons_succ, List.getElem?_cons_zero]; rfl) (fun K hK => ?_) (AllReadyH.cons (by simp only [List.getElem?_toArray, List.getElem?_cons_succ, List.getElem?_cons_zero]; rfl) (fun K hK => ?_) AllReadyH.nil))
      · skip
        have q1 : (w4.alloc (.cells #[.int .i64 0, .int .i64 99, .int .i64 100, .int .i64 255, .int .i64 256, .int .i64 (-1)] 3)).cell? ⟨g, k * 2 + 1, none⟩ = some (.slice hp hm hcc) := TA.out.hdr HHK.out
        go_simp
        refine hK.out _ _ trivial (fun hHeld => ?_)
        clear hK K
        try simp only [Act.put, List.setIfInBounds_toArray, List.set_cons_zero, List.set_cons_succ]
        refine wpAnyH_ready (rs := [9]) (by kernel_rfl) (by simp) (AllReadyH.cons (by simp only [List.getElem?_toArray, List.getElem?_cons_succ, List.getElem?_cons_zero]; rfl) (fun K hK => ?_) AllReadyH.nil)
        go_simp
        refine (pickNew b a n c [0, 99, 100, 255, 256, -1] 6 (by omega) (by omega) rfl rfl w4.drew HTW0.out.fin.dr.1).mono ?_
        rintro e x1 ⟨z, hz, rfl, hdz⟩
        have hzi : I64 z := list_i64 (l := [0, 99, 100, 255, 256, -1]) (by decide) hz
        have TB := Lib.hid (HTW0.out.only hdz)
        clear hdz hz
        go_wp2_with fail
        refine hK.out _ _ trivial (fun hHeld => ?_)
        clear hK K
        try simp only [Act.put, List.setIfInBounds_toArray, List.set_cons_zero, List.set_cons_succ]
        refine wpAnyH_ready (rs := [10]) (by kernel_rfl) (by simp) (AllReadyH.cons (by simp only [List.getElem?_toArray, List.getElem?_cons_succ, List.getElem?_cons_zero]; rfl) (fun K hK => ?_) AllReadyH.nil)
        have TC := Lib.hid (TB.out.same (alloc_same x1 (.cells #[.int .i64 z] 3)))
        have NB := Lib.hid (nums_new x1 .i64 z 3)
        go_simp
        refine hK.out _ _ trivial (fun hHeld => ?_)
        clear hK K
        try simp only [Act.put, List.setIfInBounds_toArray, List.set_cons_zero, List.set_cons_succ]
        refine wpAnyH_ready (rs := [11]) (by kernel_rfl) (by simp) (AllReadyH.cons (by simp only [List.getElem?_toArray, List.getElem?_cons_succ, List.getElem?_cons_zero]; rfl) (fun K hK => ?_) AllReadyH.nil)
        have ho := (TC.out.row.2.1 k _ vx HHK.out HVX.out).2.1
        dsimp only at ho
        have hol := ho.len
        have hszb := TC.out.own.span _ rfl
        dsimp only at hszb
        have HOI := Lib.hid ho
        have hox := HOX.out.2
        clear ho
        refine step_app3 _ (by rfl) (.tmp 35) (.tmp 39) 28 (by rfl) .i64 3 i1 (.int .i64 0) 8 Try.underlying28 HJ.out.1 HJ.out.2.1 HJ.out.2.2.1 HJ.out.2.2.2 rfl (by rfl) HOI.out (by rfl) NB.out (by omega) (by omega) (by omega) (by omega) ?_
        intro p2 d2 x2 ho2 hg2 hw2
        have HK2 := Lib.hid (TC.out.kept HHK.out HVX.out hg2)
        have hpi := OwnV.putItems TC.out.ownV HVX.out TC.out.own TC.out.row HHK.out hg2 ho2 (fun ad e => by
          rcases hw2 ad e with q | q
          · exact Or.inl q
          · exact Or.inr (by omega))
        have HPV := Lib.hid hpi.1
        have HPF := Lib.hid (HK2.out.2.far hpi.2 (fun r e => by cases e; exact hgB))
        have HVK2 := Lib.hid (HVK.out.set k HOX.out.1.1 (y := vx.items ++ [z]) (fun u hu => by
          rcases List.mem_append.1 hu with e | e
          · exact HOX.out.1.2 u e
          · rw [List.mem_singleton.1 e]; exact hzi) (by rw [List.length_append]; simp; omega))
        clear ho2 hg2 hw2 hpi
        refine hK.out _ _ trivial (fun hHeld => ?_)
        clear hK K
        try simp only [Act.put, List.setIfInBounds_toArray, List.set_cons_zero, List.set_cons_succ]
        refine wpAnyH_take (i := 12) (v := ?v10) (by simp only [List.getElem?_toArray, List.getElem?_cons_succ, List.getElem?_cons_zero]; rfl) (by kernel_rfl) (by kernel_rfl) (by kernel_rfl) (by exact fun _ _ _ h => h) (Or.inl ⟨by rfl, fun w9 hS9 => ?hy10⟩) hHeld ?rest10
        case hy10 =>
          clear hS9
          go_simp
          try with_reducible rfl
        try simp only [Act.put, List.setIfInBounds_toArray, List.set_cons_zero, List.set_cons_succ]
        refine wpAnyH_take (i := 13) (v := ?v11) (by simp only [List.getElem?_toArray, List.getElem?_cons_succ, List.getElem?_cons_zero]; rfl) (by kernel_rfl) (by kernel_rfl) (by kernel_rfl) (by exact fun _ _ _ h => h) (Or.inl ⟨by rfl, fun w9 hS9 => ?hy11⟩) hHeld ?rest11
        case hy11 =>
          clear hS9
          go_simp
          try with_reducible rfl
        try simp only [Act.put, List.setIfInBounds_toArray, List.set_cons_zero, List.set_cons_succ]
        refine wpAnyH_ready (rs := [14]) (by kernel_rfl) (by simp) (AllReadyH.cons (by simp only [List.getElem?_toArray, List.getElem?_cons_succ, List.getElem?_cons_zero]; rfl) (fun K hK => ?_) AllReadyH.nil)
        have r1 := HK2.out.1.2.frozenAt (k * 2 + 1)
        obtain ⟨u9, hu9⟩ := row_cell HK2.out.1.2 (k := k * 2 + 1) (by omega)
        go_simp
        refine hK.out _ _ trivial (fun hHeld => ?_)
        clear hK K
        try simp only [Act.put, List.setIfInBounds_toArray, List.set_cons_zero, List.set_cons_succ]
        refine wpAnyH_done (by kernel_rfl) ?_ _
        go_wp2_with fail
        refine (once_any b a n c 10 (by omega) (by omega) _ HPF.out.dr.1).mono ?_
        rintro e w8 ⟨tb, rfl, hd8⟩
        have HF8 := Lib.hid (HPF.out.only hd8)
        have HV8 := Lib.hid (HPV.out.only hd8.2 (by omega))
        clear hd8
        cases tb with
        | true =>
          go_wp2_with fail
          refine (anyF_any b a n c w8 HF8.out.dr.1).mono ?_
          rintro e w9 ⟨f9, m9, c9, l9, rfl, ho9, hm9, hfm9, hd9⟩
          have HV9 := Lib.hid (HV8.out.only hd9.2 (by omega))
          have HF9 := Lib.hid (ho9.lower HF8.out.dr.2.size)
          have HD9 := Lib.hid (HF8.out.dr.trans hd9)
          clear ho9 hd9
          go_wp2_with fail
          go_ret2
          exact ⟨_, _, _, l9, _, _, _, _, rfl, HF9.out, hm9, hfm9, HV9.out.lower hB1, by omega, HVK2.out, HD9.out⟩
        | false =>
          go_wp2_with fail
          go_ret2
          exact ⟨_, _, _, l, _, _, _, _, rfl, HF8.out.fd, by omega, HFM.out, HV8.out.lower hB1, by omega, HVK2.out, HF8.out.dr⟩
      · skip
        go_simp
        refine (pickNew b a n c [0, 99, 100, 255, 256, -1] 6 (by omega) (by omega) rfl rfl w4.drew HTW0.out.fin.dr.1).mono ?_
        rintro e x1 ⟨z, hz, rfl, hdz⟩
        have hzi : I64 z := list_i64 (l := [0, 99, 100, 255, 256, -1]) (by decide) hz
        have TB := Lib.hid (HTW0.out.only hdz)
        clear hdz hz
        go_wp2_with fail
        refine hK.out _ _ trivial (fun hHeld => ?_)
        clear hK K
        try simp only [Act.put, List.setIfInBounds_toArray, List.set_cons_zero, List.set_cons_succ]
        refine wpAnyH_ready (rs := [6, 10]) (by kernel_rfl) (by simp) (AllReadyH.cons (by simp only [List.getElem?_toArray, List.getElem?_cons_succ, List.getElem?_cons_zero]; rfl) (fun K hK => ?_) (AllReadyH.cons (by simp only [List.getElem?_toArray, List.getElem?_cons_succ, List.getElem?_cons_zero]; rfl) (fun K hK => ?_) AllReadyH.nil))
        · skip
          have q1 := TB.out.hdr HHK.out
          dsimp only at q1
          go_simp
          refine hK.out _ _ trivial (fun hHeld => ?_)
          clear hK K
          try simp only [Act.put, List.setIfInBounds_toArray, List.set_cons_zero, List.set_cons_succ]
          refine wpAnyH_ready (rs := [10]) (by kernel_rfl) (by simp) (AllReadyH.cons (by simp only [List.getElem?_toArray, List.getElem?_cons_succ, List.getElem?_cons_zero]; rfl) (fun K hK => ?_) AllReadyH.nil)
          have TC := Lib.hid (TB.out.same (alloc_same x1 (.cells #[.int .i64 z] 3)))
          have NB := Lib.hid (nums_new x1 .i64 z 3)
          go_simp
          refine hK.out _ _ trivial (fun hHeld => ?_)
          clear hK K
          try simp only [Act.put, List.setIfInBounds_toArray, List.set_cons_zero, List.set_cons_succ]
          refine wpAnyH_ready (rs := [11]) (by kernel_rfl) (by simp) (AllReadyH.cons (by simp only [List.getElem?_toArray, List.getElem?_cons_succ, List.getElem?_cons_zero]; rfl) (fun K hK => ?_) AllReadyH.nil)
          have ho := (TC.out.row.2.1 k _ vx HHK.out HVX.out).2.1
          dsimp only at ho
          have hol := ho.len
          have hszb := TC.out.own.span _ rfl
          dsimp only at hszb
          have HOI := Lib.hid ho
          have hox := HOX.out.2
          clear ho
          refine step_app3 _ (by rfl) (.tmp 35) (.tmp 39) 28 (by rfl) .i64 3 i1 (.int .i64 0) 8 Try.underlying28 HJ.out.1 HJ.out.2.1 HJ.out.2.2.1 HJ.out.2.2.2 rfl (by rfl) HOI.out (by rfl) NB.out (by omega) (by omega) (by omega) (by omega) ?_
          intro p2 d2 x2 ho2 hg2 hw2
          have HK2 := Lib.hid (TC.out.kept HHK.out HVX.out hg2)
          have hpi := OwnV.putItems TC.out.ownV HVX.out TC.out.own TC.out.row HHK.out hg2 ho2 (fun ad e => by
            rcases hw2 ad e with q | q
            · exact Or.inl q
            · exact Or.inr (by omega))
          have HPV := Lib.hid hpi.1
          have HPF := Lib.hid (HK2.out.2.far hpi.2 (fun r e => by cases e; exact hgB))
          have HVK2 := Lib.hid (HVK.out.set k HOX.out.1.1 (y := vx.items ++ [z]) (fun u hu => by
            rcases List.mem_append.1 hu with e | e
            · exact HOX.out.1.2 u e
            · rw [List.mem_singleton.1 e]; exact hzi) (by rw [List.length_append]; simp; omega))
          clear ho2 hg2 hw2 hpi
          refine hK.out _ _ trivial (fun hHeld => ?_)
          clear hK K
          try simp only [Act.put, List.setIfInBounds_toArray, List.set_cons_zero, List.set_cons_succ]
          refine wpAnyH_take (i := 12) (v := ?v12) (by simp only [List.getElem?_toArray, List.getElem?_cons_succ, List.getElem?_cons_zero]; rfl) (by kernel_rfl) (by kernel_rfl) (by kernel_rfl) (by exact fun _ _ _ h => h) (Or.inl ⟨by rfl, fun w9 hS9 => ?hy12⟩) hHeld ?rest12
          case hy12 =>
            clear hS9
            go_simp
            try with_reducible rfl
          try simp only [Act.put, List.setIfInBounds_toArray, List.set_cons_zero, List.set_cons_succ]
          refine wpAnyH_take (i := 13) (v := ?v13) (by simp only [List.getElem?_toArray, List.getElem?_cons_succ, List.getElem?_cons_zero]; rfl) (by kernel_rfl) (by kernel_rfl) (by kernel_rfl) (by exact fun _ _ _ h => h) (Or.inl ⟨by rfl, fun w9 hS9 => ?hy13⟩) hHeld ?rest13
          case hy13 =>
            clear hS9
            go_simp
            try with_reducible rfl
          try simp only [Act.put, List.setIfInBounds_toArray, List.set_cons_zero, List.set_cons_succ]
          refine wpAnyH_ready (rs := [14]) (by kernel_rfl) (by simp) (AllReadyH.cons (by simp only [List.getElem?_toArray, List.getElem?_cons_succ, List.getElem?_cons_zero]; rfl) (fun K hK => ?_) AllReadyH.nil)
          have r1 := HK2.out.1.2.frozenAt (k * 2 + 1)
          obtain ⟨u9, hu9⟩ := row_cell HK2.out.1.2 (k := k * 2 + 1) (by omega)
          go_simp
          refine hK.out _ _ trivial (fun hHeld => ?_)
          clear hK K
          try simp only [Act.put, List.setIfInBounds_toArray, List.set_cons_zero, List.set_cons_succ]
          refine wpAnyH_done (by kernel_rfl) ?_ _
          go_wp2_with fail
          refine (once_any b a n c 10 (by omega) (by omega) _ HPF.out.dr.1).mono ?_
          rintro e w8 ⟨tb, rfl, hd8⟩
          have HF8 := Lib.hid (HPF.out.only hd8)
          have HV8 := Lib.hid (HPV.out.only hd8.2 (by omega))
          clear hd8
          cases tb with
          | true =>
            go_wp2_with fail
            refine (anyF_any b a n c w8 HF8.out.dr.1).mono ?_
            rintro e w9 ⟨f9, m9, c9, l9, rfl, ho9, hm9, hfm9, hd9⟩
            have HV9 := Lib.hid (HV8.out.only hd9.2 (by omega))
            have HF9 := Lib.hid (ho9.lower HF8.out.dr.2.size)
            have HD9 := Lib.hid (HF8.out.dr.trans hd9)
            clear ho9 hd9
            go_wp2_with fail
            go_ret2
            exact ⟨_, _, _, l9, _, _, _, _, rfl, HF9.out, hm9, hfm9, HV9.out.lower hB1, by omega, HVK2.out, HD9.out⟩
          | false =>
            go_wp2_with fail
            go_ret2
            exact ⟨_, _, _, l, _, _, _, _, rfl, HF8.out.fd, by omega, HFM.out, HV8.out.lower hB1, by omega, HVK2.out, HF8.out.dr⟩
        · skip
          have TC := Lib.hid (TB.out.same (alloc_same x1 (.cells #[.int .i64 z] 3)))
          have NB := Lib.hid (nums_new x1 .i64 z 3)
          go_simp
          refine hK.out _ _ trivial (fun hHeld => ?_)
          clear hK K
          try simp only [Act.put, List.setIfInBounds_toArray, List.set_cons_zero, List.set_cons_succ]
          refine wpAnyH_ready (rs := [6]) (by kernel_rfl) (by simp) (AllReadyH.cons (by simp only [List.getElem?_toArray, List.getElem?_cons_succ, List.getElem?_cons_zero]; rfl) (fun K hK => ?_) AllReadyH.nil)
          have q1 := TC.out.hdr HHK.out
          dsimp only at q1
          go_simp
          refine hK.out _ _ trivial (fun hHeld => ?_)
          clear hK K
          try simp only [Act.put, List.setIfInBounds_toArray, List.set_cons_zero, List.set_cons_succ]
          refine wpAnyH_ready (rs := [11]) (by kernel_rfl) (by simp) (AllReadyH.cons (by simp only [List.getElem?_toArray, List.getElem?_cons_succ, List.getElem?_cons_zero]; rfl) (fun K hK => ?_) AllReadyH.nil)
          have ho := (TC.out.row.2.1 k _ vx HHK.out HVX.out).2.1
          dsimp only at ho
          have hol := ho.len
          have hszb := TC.out.own.span _ rfl
          dsimp only at hszb
          have HOI := Lib.hid ho
          have hox := HOX.out.2
          clear ho
          refine step_app3 _ (by rfl) (.tmp 35) (.tmp 39) 28 (by rfl) .i64 3 i1 (.int .i64 0) 8 Try.underlying28 HJ.out.1 HJ.out.2.1 HJ.out.2.2.1 HJ.out.2.2.2 rfl (by rfl) HOI.out (by rfl) NB.out (by omega) (by omega) (by omega) (by omega) ?_
          intro p2 d2 x2 ho2 hg2 hw2
          have HK2 := Lib.hid (TC.out.kept HHK.out HVX.out hg2)
          have hpi := OwnV.putItems TC.out.ownV HVX.out TC.out.own TC.out.row HHK.out hg2 ho2 (fun ad e => by
            rcases hw2 ad e with q | q
            · exact Or.inl q
            · exact Or.inr (by omega))
          have HPV := Lib.hid hpi.1
          have HPF := Lib.hid (HK2.out.2.far hpi.2 (fun r e => by cases e; exact hgB))
          have HVK2 := Lib.hid (HVK.out.set k HOX.out.1.1 (y := vx.items ++ [z]) (fun u hu => by
            rcases List.mem_append.1 hu with e | e
            · exact HOX.out.1.2 u e
            · rw [List.mem_singleton.1 e]; exact hzi) (by rw [List.length_append]; simp; omega))
          clear ho2 hg2 hw2 hpi
          refine hK.out _ _ trivial (fun hHeld => ?_)
          clear hK K
          try simp only [Act.put, List.setIfInBounds_toArray, List.set_cons_zero, List.set_cons_succ]
          refine wpAnyH_take (i := 12) (v := ?v14) (by simp only [List.getElem?_toArray, List.getElem?_cons_succ, List.getElem?_cons_zero]; rfl) (by kernel_rfl) (by kernel_rfl) (by kernel_rfl) (by exact fun _ _ _ h => h) (Or.inl ⟨by rfl, fun w9 hS9 => ?hy14⟩) hHeld ?rest14
          case hy14 =>
            clear hS9
            go_simp
            try with_reducible rfl
          try simp only [Act.put, List.setIfInBounds_toArray, List.set_cons_zero, List.set_cons_succ]
          refine wpAnyH_take (i := 13) (v := ?v15) (by simp only [List.getElem?_toArray, List.getElem?_cons_succ, List.getElem?_cons_zero]; rfl) (by kernel_rfl) (by kernel_rfl) (by kernel_rfl) (by exact fun _ _ _ h => h) (Or.inl ⟨by rfl, fun w9 hS9 => ?hy15⟩) hHeld ?rest15
          case hy15 =>
            clear hS9
            go_simp
            try with_reducible rfl
          try simp only [Act.put, List.setIfInBounds_toArray, List.set_cons_zero, List.set_cons_succ]
          refine wpAnyH_ready (rs := [14]) (by kernel_rfl) (by simp) (AllReadyH.cons (by simp only [List.getElem?_toArray, List.getElem?_cons_succ, List.getElem?_cons_zero]; rfl) (fun K hK => ?_) AllReadyH.nil)
          have r1 := HK2.out.1.2.frozenAt (k * 2 + 1)
          obtain ⟨u9, hu9⟩ := row_cell HK2.out.1.2 (k := k * 2 + 1) (by omega)
          go_simp
          refine hK.out _ _ trivial (fun hHeld => ?_)
          clear hK K
          try simp only [Act.put, List.setIfInBounds_toArray, List.set_cons_zero, List.set_cons_succ]
          refine wpAnyH_done (by kernel_rfl) ?_ _
          go_wp2_with fail
          refine (once_any b a n c 10 (by omega) (by omega) _ HPF.out.dr.1).mono ?_
          rintro e w8 ⟨tb, rfl, hd8⟩
          have HF8 := Lib.hid (HPF.out.only hd8)
          have HV8 := Lib.hid (HPV.out.only hd8.2 (by omega))
          clear hd8
          cases tb with
          | true =>
            go_wp2_with fail
            refine (anyF_any b a n c w8 HF8.out.dr.1).mono ?_
            rintro e w9 ⟨f9, m9, c9, l9, rfl, ho9, hm9, hfm9, hd9⟩
            have HV9 := Lib.hid (HV8.out.only hd9.2 (by omega))
            have HF9 := Lib.hid (ho9.lower HF8.out.dr.2.size)
            have HD9 := Lib.hid (HF8.out.dr.trans hd9)
            clear ho9 hd9
            go_wp2_with fail
            go_ret2
            exact ⟨_, _, _, l9, _, _, _, _, rfl, HF9.out, hm9, hfm9, HV9.out.lower hB1, by omega, HVK2.out, HD9.out⟩
          | false =>
            go_wp2_with fail
            go_ret2
            exact ⟨_, _, _, l, _, _, _, _, rfl, HF8.out.fd, by omega, HFM.out, HV8.out.lower hB1, by omega, HVK2.out, HF8.out.dr⟩
  have b1 : (y == 1) = false := by simpa using q1
  by_cases q2 : y = 2
  · have b2 : (y == 2) = true := by simpa using q2
    clear q2
    have HLM := Lib.hid HTW.out.ownV.lim
    have HNN := Lib.hid (items_new Vh.enc_len w4 ⟨0, none, 0, 0⟩ 66)
    have hsz4 := HTW.out.own.span _ rfl
    dsimp only at hsz4
    go_wp2_with (at_builtin; refine wpl_appV2 _ rfl (.tmp 45) (.tmp 47) 25 rfl 66 3 i0 (.agg #[.int .i64 0, .slice none 0 0]) 32 Try.underlying25 HI.out.1 HI.out.2.1 HI.out.2.2.1 HI.out.2.2.2 rfl rfl (HLM.out.same (alloc_same _ _)) rfl HNN.out (Own.nil) (fun ad e => by cases e) (by omega) ?c4 ?c5 ?_)
    case c4 => omega
    case c5 => simp; omega
    intro a5 c5 w5 ho5 hg5
    have HPV := Lib.hid ho5
    have HPF := Lib.hid ((HTW.out.fin.same (alloc_same w4 (.cells #[.int .i64 0, .slice none 0 0] 66))).far hg5 (fun r e => by
      simp only [Value.ownBlock, Option.some.injEq] at e
      omega))
    have HVK2 := Lib.hid (HVK.out.app (k := 0) (y := []) ⟨by omega, by omega⟩ (fun z hz => by cases hz) (by simp))
    clear ho5 hg5
    go_wp2_with fail
    refine (once_any b a n c 10 (by omega) (by omega) _ HPF.out.dr.1).mono ?_
    rintro e w8 ⟨tb, rfl, hd8⟩
    have HF8 := Lib.hid (HPF.out.only hd8)
    have HV8 := Lib.hid (HPV.out.only hd8.2 (by omega))
    clear hd8
    cases tb with
    | true =>
      go_wp2_with fail
      refine (anyF_any b a n c w8 HF8.out.dr.1).mono ?_
      rintro e w9 ⟨f9, m9, c9, l9, rfl, ho9, hm9, hfm9, hd9⟩
      have HV9 := Lib.hid (HV8.out.only hd9.2 (by omega))
      have HF9 := Lib.hid (ho9.lower HF8.out.dr.2.size)
      have HD9 := Lib.hid (HF8.out.dr.trans hd9)
      clear ho9 hd9
      go_wp2_with fail
      go_ret2
      exact ⟨_, _, _, l9, _, _, _, _, rfl, HF9.out, hm9, hfm9, HV9.out.lower hB1, by omega, HVK2.out, HD9.out⟩
    | false =>
      go_wp2_with fail
      go_ret2
      exact ⟨_, _, _, l, _, _, _, _, rfl, HF8.out.fd, by omega, HFM.out, HV8.out.lower hB1, by omega, HVK2.out, HF8.out.dr⟩
  have b2 : (y == 2) = false := by simpa using q2
  by_cases q3 : y = 3
  · have b3 : (y == 3) = true := by simpa using q3
    clear q3
    have fz := HTW.out.own.2.frozenAt (k * 2)
    have fz1 := HTW.out.own.2.frozenAt (k * 2 + 1)
    obtain ⟨u, hu⟩ := row_cell HTW.out.own.2 (k := k * 2) (by omega)
    obtain ⟨u1, hu1⟩ := row_cell HTW.out.own.2 (k := k * 2 + 1) (by omega)
    have hpz := HTW.out.ownV.putZero (i := k) hkm
    have HPV := Lib.hid hpz.1
    have HPF := Lib.hid (HTW.out.fin.far hpz.2 (fun r e => by cases e; exact hgB))
    have HVK2 := Lib.hid (HVK.out.set k (k := 0) (y := []) ⟨by omega, by omega⟩ (fun z hz => by cases hz) (by simp))
    clear hpz
    go_wp2_with fail
    refine (once_any b a n c 10 (by omega) (by omega) _ HPF.out.dr.1).mono ?_
    rintro e w8 ⟨tb, rfl, hd8⟩
    have HF8 := Lib.hid (HPF.out.only hd8)
    have HV8 := Lib.hid (HPV.out.only hd8.2 (by omega))
    clear hd8
    cases tb with
    | true =>
      go_wp2_with fail
      refine (anyF_any b a n c w8 HF8.out.dr.1).mono ?_
      rintro e w9 ⟨f9, m9, c9, l9, rfl, ho9, hm9, hfm9, hd9⟩
      have HV9 := Lib.hid (HV8.out.only hd9.2 (by omega))
      have HF9 := Lib.hid (ho9.lower HF8.out.dr.2.size)
      have HD9 := Lib.hid (HF8.out.dr.trans hd9)
      clear ho9 hd9
      go_wp2_with fail
      go_ret2
      exact ⟨_, _, _, l9, _, _, _, _, rfl, HF9.out, hm9, hfm9, HV9.out.lower hB1, by omega, HVK2.out, HD9.out⟩
    | false =>
      go_wp2_with fail
      go_ret2
      exact ⟨_, _, _, l, _, _, _, _, rfl, HF8.out.fd, by omega, HFM.out, HV8.out.lower hB1, by omega, HVK2.out, HF8.out.dr⟩
  have b3 : (y == 3) = false := by simpa using q3
  clear q0 q1 q2 q3
  have HPV := Lib.hid HTW.out.ownV
  have HPF := Lib.hid HTW.out.fin
  go_wp2_with fail
  refine (once_any b a n c 10 (by omega) (by omega) _ HPF.out.dr.1).mono ?_
  rintro e w8 ⟨tb, rfl, hd8⟩
  have HF8 := Lib.hid (HPF.out.only hd8)
  have HV8 := Lib.hid (HPV.out.only hd8.2 (by omega))
  clear hd8
  cases tb with
  | true =>
    go_wp2_with fail
    refine (anyF_any b a n c w8 HF8.out.dr.1).mono ?_
    rintro e w9 ⟨f9, m9, c9, l9, rfl, ho9, hm9, hfm9, hd9⟩
    have HV9 := Lib.hid (HV8.out.only hd9.2 (by omega))
    have HF9 := Lib.hid (ho9.lower HF8.out.dr.2.size)
    have HD9 := Lib.hid (HF8.out.dr.trans hd9)
    clear ho9 hd9
    go_wp2_with fail
    go_ret2
    exact ⟨_, _, _, l9, _, _, _, _, rfl, HF9.out, hm9, hfm9, HV9.out.lower hB1, by omega, HVK.out, HD9.out⟩
  | false =>
    go_wp2_with fail
    go_ret2
    exact ⟨_, _, _, l, _, _, _, _, rfl, HF8.out.fd, by omega, HFM.out, HV8.out.lower hB1, by omega, HVK.out, HF8.out.dr⟩
end Go.Proofs.Ytpbdfbpcjeajbaa
