/- A list of extensions is drawn, perhaps with a fault. A list of integers copied, by the program. An extension copied, by the program; the extensions whose tags are asked for. Ranges as facts, and which tags are reserved: by the program and by the model. -/
import Derived.Test.YtcpnchjgklemgaaG13
import Derived.Deep.RegionHeld3
import Derived.Test.YtcpnchjgklemgaaG1
import Derived.Test.YtcpnchjgklemgaaG2
import Derived.RegionTactic
import Derived.Test.YtcpnchjgklemgaaG11
import Derived.Test.YtcpnchjgklemgaaG4
import Derived.Test.YtcpnchjgklemgaaG5
import Derived.Deep.QuietTactic
import Derived.BigQuiet
import Derived.StillTailTactics
import Derived.Handy
namespace Go.Proofs.Ytcpnchjgklemgaa
open Go.ChangeShapes Go.WideShapes Go.ChangeAt Go.RowKit
set_option linter.unusedVariables false
set_option linter.unusedSimpArgs false

theorem Drawn.row {b : Nat} {a : Option Addr} {n c : Nat} {w X X' : World} {row : Option Nat} (h : Drawn b a n c w X) (cu : Curs w b a n c) (hg : X.grownBy X' row) (hr : ∀ r, row = some r → w.heap.size ≤ r) : Drawn b a n c w X' :=
  h.under cu ((Below.refl _ X).grown hg h.2.size hr) (Nat.le_refl _)
/-- A list of extensions while it is drawn: its rows, and the cursor. -/
structure TwoE (b : Nat) (a : Option Addr) (n c : Nat) (w : World) (g m co : Nat) (hs : List Vh) (v : List Vl) (X : World) : Prop where
  cu : Curs w b a n c
  dr : Drawn b a n c w X
  own : OwnI Vh.enc 2 99 X w.heap.size (some ⟨g, 0, none⟩) m co hs
  row : RowsV 3 X w.heap.size (some ⟨g, 0, none⟩) hs v
section
variable {b : Nat} {a : Option Addr} {n c : Nat} {w : World} {X X' : World} {g m co : Nat} {hs : List Vh} {v : List Vl}
theorem TwoE.ownV (h : TwoE b a n c w g m co hs v X) : OwnV 99 3 X w.heap.size (some ⟨g, 0, none⟩) m co v := ⟨hs, h.own, h.row⟩
theorem TwoE.only (h : TwoE b a n c w g m co hs v X) (hd : Drawn b a n c X X') : TwoE b a n c w g m co hs v X' := by
  have hb := h.cu.lt
  exact ⟨h.cu, h.dr.trans hd, h.own.only hd.2 h.own.span (Or.inl (by omega)), h.row.1, fun j q x hq hx => by
    obtain ⟨e, ho, hdd⟩ := h.row.2.1 j q x hq hx
    exact ⟨e, ho.far (only_grown hd.2) (fun ad e2 q2 => by
      have := (ho.span ad e2).1
      cases q2
      omega), hdd⟩, h.row.2.2⟩
theorem TwoE.same (h : TwoE b a n c w g m co hs v X) (hb : Below X.heap.size X X') : TwoE b a n c w g m co hs v X' := ⟨h.cu, h.dr.same hb, h.own.same hb, h.row.same hb⟩
theorem TwoE.hdr (h : TwoE b a n c w g m co hs v X) {k : Nat} {u : Vh} (hk : hs[k]? = some u) : X.cell? ⟨g, k * 2 + 1, none⟩ = some (.slice u.p u.m u.c) := by
  obtain ⟨bb, o, e, hc⟩ := (h.own.items Vh.enc_len).cell k u hk
  cases e
  have := hc 1 _ rfl
  rw [Nat.zero_add] at this
  exact this
theorem TwoE.tag (h : TwoE b a n c w g m co hs v X) {k : Nat} {u : Vh} (hk : hs[k]? = some u) : X.cell? ⟨g, k * 2, none⟩ = some (.int .i64 u.num) := by
  obtain ⟨bb, o, e, hc⟩ := (h.own.items Vh.enc_len).cell k u hk
  cases e
  have := hc 0 _ rfl
  rw [Nat.zero_add] at this
  exact this
theorem TwoE.ge2 (h : TwoE b a n c w g m co hs v X) : w.heap.size ≤ g := (h.own.span _ rfl).1
/-- The rows of the list, behind an append onto one body. -/
theorem TwoE.kept (h : TwoE b a n c w g m co hs v X) {k : Nat} {u : Vh} {x : Vl} (hk : hs[k]? = some u) (hx : v[k]? = some x) (hg : X.grownBy X' (Value.ownBlock (.slice u.p u.m u.c))) : OwnI Vh.enc 2 99 X' w.heap.size (some ⟨g, 0, none⟩) m co hs ∧ Drawn b a n c w X' := by
  obtain ⟨_, ho, hd⟩ := h.row.2.1 k u x hk hx
  have hrow : ∀ ad, Value.ownBlock (.slice u.p u.m u.c) = some ad → ∃ bd, u.p = some bd ∧ bd.block = ad := fun ad e => by
    cases hvp : u.p with
    | none => rw [hvp] at e; simp [Value.ownBlock] at e
    | some bd => rw [hvp] at e; simp only [Value.ownBlock, Option.some.injEq] at e; exact ⟨bd, rfl, e⟩
  exact ⟨h.own.far hg fun ad e e2 => by
    cases e
    obtain ⟨bd, hb, hbb⟩ := hrow _ e2
    exact hd bd _ hb rfl hbb, h.dr.row h.cu hg fun r e => by
    obtain ⟨bd, hb, hbb⟩ := hrow _ e
    rw [← hbb]
    exact (ho.span bd hb).1⟩
end
/-- What a draw of a list of extensions leaves. -/
def DrewE (b : Nat) (a : Option Addr) (n c : Nat) (w : World) (e : Ending) (w' : World) : Prop :=
  ∃ (ao : Option Addr) (m co : Nat) (v : List Vl), e = .returned (.slice ao m co) ∧ OwnV 99 3 w' w.heap.size ao m co v ∧ m ≤ 6 ∧ Vok 5 v ∧ Drawn b a n c w w'

set_option maxHeartbeats 8000000 in
set_option maxRecDepth 100000 in
theorem anyE_any (b : Nat) (a : Option Addr) (n c : Nat) (w : World) (hc : Curs w b a n c) :
    Calls Try.prog 108 #[.pointer (some ⟨b, 0, none⟩)] w (DrewE b a n c w) := by
  have HC := Lib.hid hc
  have hb := hc.lt
  clear hc
  obtain ⟨i0, hi, hz0, hz1, hz2⟩ := info_parts infoExtS
  have HI := Lib.hid (And.intro hi (And.intro hz0 (And.intro hz1 hz2)))
  clear hi hz0 hz1 hz2
  obtain ⟨i1, hi, hz0, hz1, hz2⟩ := info_parts infoIntS
  have HJ := Lib.hid (And.intro hi (And.intro hz0 (And.intro hz1 hz2)))
  clear hi hz0 hz1 hz2
  go_enter Try.func108, Try.ntmps108
  go_wp2_with fail
  refine (drawE_any b a n c w HC.out).mono ?_
  rintro e w2 ⟨ao, m, co, v, rfl, ho2, hm5, hv2, hd2⟩
  have HVK := Lib.hid (hv2.vok.mono (show 4 ≤ 5 by omega))
  have HVK4 := Lib.hid hv2.vok
  clear hv2
  by_cases hm0 : m = 0
  · have HO2 := Lib.hid ho2
    have HD2 := Lib.hid hd2
    clear ho2 hd2
    subst hm0
    go_wp2_with fail
    go_ret
    exact ⟨_, _, _, v, rfl, HO2.out, by omega, HVK.out, HD2.out⟩
  obtain ⟨hs, hI2, hR2⟩ := ho2
  obtain ⟨g, rfl, hg1, hg2⟩ := hI2.head (by omega)
  have hT2 : TwoE b a n c w g m co hs v w2 := ⟨HC.out, hd2, hI2, hR2⟩
  have hlen : v.length = m := by rw [← hR2.1, hI2.len]
  have HLN := Lib.hid hlen
  have HTW := Lib.hid hT2
  have hmi : ((m : Int) == 0) = false := by simp; omega
  clear hd2 hI2 hR2 hT2 hlen
  go_wp2_with fail
  refine (below_any b a n c (m : Int) (by omega) (by omega) w2 HTW.out.dr.1).mono ?_
  rintro e w3 ⟨x, hx0, hx1, rfl, hd3⟩
  obtain ⟨k, rfl⟩ : ∃ k : Nat, x = k := ⟨x.toNat, by omega⟩
  have hkm : k < m := by omega
  replace HTW := Lib.hid (HTW.out.only hd3)
  clear hd3
  go_wp2_with fail
  refine (below_any b a n c 9 (by omega) (by omega) w3 HTW.out.dr.1).mono ?_
  rintro e w4 ⟨y, hy0, hy1, rfl, hd4⟩
  replace HTW := Lib.hid (HTW.out.only hd4)
  clear hd4
  have hgB := HTW.out.ge2
  obtain ⟨vx, hvx⟩ : ∃ vx, v[k]? = some vx := ⟨_, List.getElem?_eq_getElem (by rw [HLN.out]; exact hkm)⟩
  obtain ⟨⟨hn, hp, hm, hcc⟩, hhk⟩ : ∃ u : Vh, hs[k]? = some u := ⟨_, List.getElem?_eq_getElem (by rw [HTW.out.row.1, HLN.out]; exact hkm)⟩
  have HVX := Lib.hid hvx
  have HHK := Lib.hid hhk
  have hokx := HVK4.out vx (List.mem_of_getElem? hvx)
  have HOX := Lib.hid hokx
  clear hvx hhk hokx
  by_cases q0 : y = 0
  · have b0 : (y == 0) = true := by simpa using q0
    clear q0
    go_wp2_with fail
    refine (pickNew b a n c [-1, 0, 255, 256] 4 (by omega) (by omega) rfl rfl w4 HTW.out.dr.1).mono ?_
    rintro e w5 ⟨z, hz, rfl, hd5⟩
    have hzi : I64 z := list_i64 (l := [-1, 0, 255, 256]) (by decide) hz
    have HT5 := Lib.hid (HTW.out.only hd5)
    have fz := HT5.out.own.2.frozenAt (k * 2)
    obtain ⟨u, hu⟩ := row_cell HT5.out.own.2 (k := k * 2) (by omega)
    have hpn := HT5.out.ownV.putNum HVX.out z
    have HPV := Lib.hid hpn.1
    have HPF := Lib.hid (HT5.out.dr.row HC.out hpn.2 (fun r e => by cases e; exact hgB))
    have HVK2 := Lib.hid (HVK.out.set k hzi HOX.out.1.2 (Nat.le_trans HOX.out.2 (by omega)))
    clear hd5 hz hpn
    go_wp2_with fail
    go_ret
    exact ⟨_, _, _, _, rfl, HPV.out, by omega, HVK2.out, HPF.out⟩
  have b0 : (y == 0) = false := by simpa using q0
  by_cases q1 : y = 1
  · have b1 : (y == 1) = true := by simpa using q1
    clear q1
    go_wp2_with fail
    have HTW0 := Lib.hid (HTW.out.same (Below.refl _ w4).drew)
    refine wp_region_held_drew (S := fun _ => True) (by kernel_rfl) trivial (fun hHeld => ?_)
    refine wpAnyH_take (i := 0) (v := ?v1) (by simp only [List.getElem?_toArray, List.getElem?_cons_succ, List.getElem?_cons_zero]; rfl) (by kernel_rfl) (by kernel_rfl) (by kernel_rfl) (by exact fun _ _ _ h => h) (Or.inl ⟨by rfl, fun w9 hS9 => ?hy1⟩) hHeld ?rest1
    case hy1 =>
      clear hS9
      go_simp
      try with_reducible rfl
    try simp only [Act.put, List.setIfInBounds_toArray, List.set_cons_zero, List.set_cons_succ]
    refine wpAnyH_take (i := 1) (v := ?v2) (by simp only [List.getElem?_toArray, List.getElem?_cons_succ, List.getElem?_cons_zero]; rfl) (by kernel_rfl) (by kernel_rfl) (by kernel_rfl) (by exact fun _ _ _ h => h) (Or.inl ⟨by rfl, fun w9 hS9 => ?hy2⟩) hHeld ?rest2
    case hy2 =>
      clear hS9
      go_simp
      try with_reducible rfl
    try simp only [Act.put, List.setIfInBounds_toArray, List.set_cons_zero, List.set_cons_succ]
    refine wpAnyH_take (i := 2) (v := ?v3) (by simp only [List.getElem?_toArray, List.getElem?_cons_succ, List.getElem?_cons_zero]; rfl) (by kernel_rfl) (by kernel_rfl) (by kernel_rfl) (by exact fun _ _ _ h => h) (Or.inl ⟨by rfl, fun w9 hS9 => ?hy3⟩) hHeld ?rest3
    case hy3 =>
      clear hS9
      go_simp
      try with_reducible rfl
    try simp only [Act.put, List.setIfInBounds_toArray, List.set_cons_zero, List.set_cons_succ]
    refine wpAnyH_take (i := 3) (v := ?v4) (by simp only [List.getElem?_toArray, List.getElem?_cons_succ, List.getElem?_cons_zero]; rfl) (by kernel_rfl) (by kernel_rfl) (by kernel_rfl) (by exact fun _ _ _ h => h) (Or.inl ⟨by rfl, fun w9 hS9 => ?hy4⟩) hHeld ?rest4
    case hy4 =>
      clear hS9
      go_simp
      try with_reducible rfl
    try simp only [Act.put, List.setIfInBounds_toArray, List.set_cons_zero, List.set_cons_succ]
    refine wpAnyH_take (i := 4) (v := ?v5) (by simp only [List.getElem?_toArray, List.getElem?_cons_succ, List.getElem?_cons_zero]; rfl) (by kernel_rfl) (by kernel_rfl) (by kernel_rfl) (by exact fun _ _ _ h => h) (Or.inl ⟨by rfl, fun w9 hS9 => ?hy5⟩) hHeld ?rest5
    case hy5 =>
      clear hS9
      go_simp
      try with_reducible rfl
    try simp only [Act.put, List.setIfInBounds_toArray, List.set_cons_zero, List.set_cons_succ]
    refine wpAnyH_take (i := 5) (v := ?v6) (by simp only [List.getElem?_toArray, List.getElem?_cons_succ, List.getElem?_cons_zero]; rfl) (by kernel_rfl) (by kernel_rfl) (by kernel_rfl) (by exact fun _ _ _ h => h) (Or.inl ⟨by rfl, fun w9 hS9 => ?hy6⟩) hHeld ?rest6
    case hy6 =>
      clear hS9
      go_simp
      try with_reducible rfl
    try simp only [Act.put, List.setIfInBounds_toArray, List.set_cons_zero, List.set_cons_succ]
    refine wpAnyH_take (i := 7) (v := ?v7) (by simp only [List.getElem?_toArray, List.getElem?_cons_succ, List.getElem?_cons_zero]; rfl) (by kernel_rfl) (by kernel_rfl) (by kernel_rfl) (by exact fun _ _ _ h => h) (Or.inl ⟨by rfl, fun w9 hS9 => ?hy7⟩) hHeld ?rest7
    case hy7 =>
      clear hS9
      go_simp
      try with_reducible rfl
    try simp only [Act.put, List.setIfInBounds_toArray, List.set_cons_zero, List.set_cons_succ]
    refine wpAnyH_ready (rs := [6, 8]) (by kernel_rfl) (by simp) (AllReadyH.cons (by simp only [List.getElem?_toArray, List.getElem?_cons_succ, List.getElem?_cons_zero]; rfl) (fun K hK => ?_) (AllReadyH.cons (by simp only [List.getElem?_toArray, List.getElem?_cons_succ, List.getElem?_cons_zero]; rfl) (fun K hK => ?_) AllReadyH.nil))
    · skip
      have q1 := HTW0.out.hdr HHK.out
      dsimp only at q1
      go_simp
      refine hK.out _ _ trivial (fun hHeld => ?_)
      clear hK K
      try simp only [Act.put, List.setIfInBounds_toArray, List.set_cons_zero, List.set_cons_succ]
      refine wpAnyH_ready (rs := [8]) (by kernel_rfl) (by simp) (AllReadyH.cons (by simp only [List.getElem?_toArray, List.getElem?_cons_succ, List.getElem?_cons_zero]; rfl) (fun K hK => ?_) AllReadyH.nil)
      have TA := Lib.hid (HTW0.out.same (alloc_same w4.drew (.cells #[.int .i64 (-1), .int .i64 255, .int .i64 256] 3)))
      go_simp
      refine hK.out _ _ trivial (fun hHeld => ?_)
      clear hK K
      try simp only [Act.put, List.setIfInBounds_toArray, List.set_cons_zero, List.set_cons_succ]
      refine wpAnyH_ready (rs := [9]) (by kernel_rfl) (by simp) (AllReadyH.cons (by simp only [List.getElem?_toArray, List.getElem?_cons_succ, List.getElem?_cons_zero]; rfl) (fun K hK => ?_) AllReadyH.nil)
      go_simp
      refine (pickNew b a n c [-1, 255, 256] 3 (by omega) (by omega) rfl rfl w4.drew HTW0.out.dr.1).mono ?_
      rintro e x1 ⟨z, hz, rfl, hdz⟩
      have hzi : I64 z := list_i64 (l := [-1, 255, 256]) (by decide) hz
      have TB := Lib.hid (HTW0.out.only hdz)
      clear hdz hz
      go_wp2_with fail
      refine hK.out _ _ trivial (fun hHeld => ?_)
      clear hK K
      try simp only [Act.put, List.setIfInBounds_toArray, List.set_cons_zero, List.set_cons_succ]
      refine wpAnyH_ready (rs := [10]) (by kernel_rfl) (by simp) (AllReadyH.cons (by simp only [List.getElem?_toArray, List.getElem?_cons_succ, List.getElem?_cons_zero]; rfl) (fun K hK => ?_) AllReadyH.nil)
      have TC := Lib.hid (TB.out.same (alloc_same x1 (.cells #[.int .i64 z] 3)))
      have NB := Lib.hid (nums_new x1 .i64 z 3)
      go_simp
      refine hK.out _ _ trivial (fun hHeld => ?_)
      clear hK K
      try simp only [Act.put, List.setIfInBounds_toArray, List.set_cons_zero, List.set_cons_succ]
      refine wpAnyH_ready (rs := [11]) (by kernel_rfl) (by simp) (AllReadyH.cons (by simp only [List.getElem?_toArray, List.getElem?_cons_succ, List.getElem?_cons_zero]; rfl) (fun K hK => ?_) AllReadyH.nil)
      have ho := (TC.out.row.2.1 k _ vx HHK.out HVX.out).2.1
      dsimp only at ho
      have hol := ho.len
      have hszb := TC.out.own.span _ rfl
      dsimp only at hszb
      have HOI := Lib.hid ho
      have hox := HOX.out.2
      clear ho
      refine step_app3 _ (by rfl) (.tmp 34) (.tmp 38) 24 (by rfl) .i64 3 i1 (.int .i64 0) 8 Try.underlying24 HJ.out.1 HJ.out.2.1 HJ.out.2.2.1 HJ.out.2.2.2 rfl (by rfl) HOI.out (by rfl) NB.out (by omega) (by omega) (by omega) (by omega) ?_
      intro p2 d2 x2 ho2 hg2 hw2
      have HK2 := Lib.hid (TC.out.kept HHK.out HVX.out hg2)
      have hpi := OwnV.putItems TC.out.ownV HVX.out TC.out.own TC.out.row HHK.out hg2 ho2 (fun ad e => by
        rcases hw2 ad e with q | q
        · exact Or.inl q
        · exact Or.inr (by omega))
      have HPV := Lib.hid hpi.1
      have HPF := Lib.hid (HK2.out.2.row HC.out hpi.2 (fun r e => by cases e; exact hgB))
      have HVK2 := Lib.hid (HVK.out.set k HOX.out.1.1 (y := vx.items ++ [z]) (fun u hu => by
        rcases List.mem_append.1 hu with e | e
        · exact HOX.out.1.2 u e
        · rw [List.mem_singleton.1 e]; exact hzi) (by rw [List.length_append]; simp; omega))
      clear ho2 hg2 hw2 hpi
      refine hK.out _ _ trivial (fun hHeld => ?_)
      clear hK K
      try simp only [Act.put, List.setIfInBounds_toArray, List.set_cons_zero, List.set_cons_succ]
      refine wpAnyH_take (i := 12) (v := ?v8) (by simp only [List.getElem?_toArray, List.getElem?_cons_succ, List.getElem?_cons_zero]; rfl) (by kernel_rfl) (by kernel_rfl) (by kernel_rfl) (by exact fun _ _ _ h => h) (Or.inl ⟨by rfl, fun w9 hS9 => ?hy8⟩) hHeld ?rest8
      case hy8 =>
        clear hS9
        go_simp
        try with_reducible rfl
      try simp only [Act.put, List.setIfInBounds_toArray, List.set_cons_zero, List.set_cons_succ]
      refine wpAnyH_take (i := 13) (v := ?v9) (by simp only [List.getElem?_toArray, List.getElem?_cons_succ, List.getElem?_cons_zero]; rfl) (by kernel_rfl) (by kernel_rfl) (by kernel_rfl) (by exact fun _ _ _ h => h) (Or.inl ⟨by rfl, fun w9 hS9 => ?hy9⟩) hHeld ?rest9
      case hy9 =>
        clear hS9
        go_simp
        try with_reducible rfl
      try simp only [Act.put, List.setIfInBounds_toArray, List.set_cons_zero, List.set_cons_succ]
      refine wpAnyH_ready (rs := [14]) (by kernel_rfl) (by simp) (AllReadyH.cons (by simp only [List.getElem?_toArray, List.getElem?_cons_succ, List.getElem?_cons_zero]; rfl) (fun K hK => ?_) AllReadyH.nil)
      have r1 := HK2.out.1.2.frozenAt (k * 2 + 1)
      obtain ⟨u9, hu9⟩ := row_cell HK2.out.1.2 (k := k * 2 + 1) (by omega)
      go_simp
      refine hK.out _ _ trivial (fun hHeld => ?_)
      clear hK K
      try simp only [Act.put, List.setIfInBounds_toArray, List.set_cons_zero, List.set_cons_succ]
      refine wpAnyH_done (by kernel_rfl) ?_ _
      go_wp2_with fail
      go_ret
      exact ⟨_, _, _, _, rfl, HPV.out, by omega, HVK2.out, HPF.out⟩
    · skip
      have TA := Lib.hid (HTW0.out.same (alloc_same w4.drew (.cells #[.int .i64 (-1), .int .i64 255, .int .i64 256] 3)))
      go_simp
      refine hK.out _ _ trivial (fun hHeld => ?_)
      clear hK K
      try simp only [Act.put, List.setIfInBounds_toArray, List.set_cons_zero, List.set_cons_succ]
      refine wpAnyH_ready (rs := [6, 9]) (by kernel_rfl) (by simp) (AllReadyH.cons (by simp only [List.getElem?_toArray, List.getElem?_cons_succ, List.getElem?_cons_zero]; rfl) (fun K hK => ?_) (AllReadyH.cons (by simp only [List.getElem?_toArray, List.getElem?_cons_succ, List.getElem?_cons_zero]; rfl) (fun K hK => ?_) AllReadyH.nil))
      · skip
        have q1 : (w4.alloc (.cells #[.int .i64 (-1), .int .i64 255, .int .i64 256] 3)).cell? ⟨g, k * 2 + 1, none⟩ = some (.slice hp hm hcc) := TA.out.hdr HHK.out
        go_simp
        refine hK.out _ _ trivial (fun hHeld => ?_)
        clear hK K
        try simp only [Act.put, List.setIfInBounds_toArray, List.set_cons_zero, List.set_cons_succ]
        refine wpAnyH_ready (rs := [9]) (by kernel_rfl) (by simp) (AllReadyH.cons (by simp only [List.getElem?_toArray, List.getElem?_cons_succ, List.getElem?_cons_zero]; rfl) (fun K hK => ?_) AllReadyH.nil)
        go_simp
        refine (pickNew b a n c [-1, 255, 256] 3 (by omega) (by omega) rfl rfl w4.drew HTW0.out.dr.1).mono ?_
        rintro e x1 ⟨z, hz, rfl, hdz⟩
        have hzi : I64 z := list_i64 (l := [-1, 255, 256]) (by decide) hz
        have TB := Lib.hid (HTW0.out.only hdz)
        clear hdz hz
        go_wp2_with fail
        refine hK.out _ _ trivial (fun hHeld => ?_)
        clear hK K
        try simp only [Act.put, List.setIfInBounds_toArray, List.set_cons_zero, List.set_cons_succ]
        refine wpAnyH_ready (rs := [10]) (by kernel_rfl) (by simp) (AllReadyH.cons (by simp only [List.getElem?_toArray, List.getElem?_cons_succ, List.getElem?_cons_zero]; rfl) (fun K hK => ?_) AllReadyH.nil)
        have TC := Lib.hid (TB.out.same (alloc_same x1 (.cells #[.int .i64 z] 3)))
        have NB := Lib.hid (nums_new x1 .i64 z 3)
        go_simp
        refine hK.out _ _ trivial (fun hHeld => ?_)
        clear hK K
        try simp only [Act.put, List.setIfInBounds_toArray, List.set_cons_zero, List.set_cons_succ]
        refine wpAnyH_ready (rs := [11]) (by kernel_rfl) (by simp) (AllReadyH.cons (by simp only [List.getElem?_toArray, List.getElem?_cons_succ, List.getElem?_cons_zero]; rfl) (fun K hK => ?_) AllReadyH.nil)
        have ho := (TC.out.row.2.1 k _ vx HHK.out HVX.out).2.1
        dsimp only at ho
        have hol := ho.len
        have hszb := TC.out.own.span _ rfl
        dsimp only at hszb
        have HOI := Lib.hid ho
        have hox := HOX.out.2
        clear ho
        refine step_app3 _ (by rfl) (.tmp 34) (.tmp 38) 24 (by rfl) .i64 3 i1 (.int .i64 0) 8 Try.underlying24 HJ.out.1 HJ.out.2.1 HJ.out.2.2.1 HJ.out.2.2.2 rfl (by rfl) HOI.out (by rfl) NB.out (by omega) (by omega) (by omega) (by omega) ?_
        intro p2 d2 x2 ho2 hg2 hw2
        have HK2 := Lib.hid (TC.out.kept HHK.out HVX.out hg2)
        have hpi := OwnV.putItems TC.out.ownV HVX.out TC.out.own TC.out.row HHK.out hg2 ho2 (fun ad e => by
          rcases hw2 ad e with q | q
          · exact Or.inl q
          · exact Or.inr (by omega))
        have HPV := Lib.hid hpi.1
        have HPF := Lib.hid (HK2.out.2.row HC.out hpi.2 (fun r e => by cases e; exact hgB))
        have HVK2 := Lib.hid (HVK.out.set k HOX.out.1.1 (y := vx.items ++ [z]) (fun u hu => by
          rcases List.mem_append.1 hu with e | e
          · exact HOX.out.1.2 u e
          · rw [List.mem_singleton.1 e]; exact hzi) (by rw [List.length_append]; simp; omega))
        clear ho2 hg2 hw2 hpi
        refine hK.out _ _ trivial (fun hHeld => ?_)
        clear hK K
        try simp only [Act.put, List.setIfInBounds_toArray, List.set_cons_zero, List.set_cons_succ]
        refine wpAnyH_take (i := 12) (v := ?v10) (by simp only [List.getElem?_toArray, List.getElem?_cons_succ, List.getElem?_cons_zero]; rfl) (by kernel_rfl) (by kernel_rfl) (by kernel_rfl) (by exact fun _ _ _ h => h) (Or.inl ⟨by rfl, fun w9 hS9 => ?hy10⟩) hHeld ?rest10
        case hy10 =>
          clear hS9
          go_simp
          try with_reducible rfl
        try simp only [Act.put, List.setIfInBounds_toArray, List.set_cons_zero, List.set_cons_succ]
        refine wpAnyH_take (i := 13) (v := ?v11) (by simp only [List.getElem?_toArray, List.getElem?_cons_succ, List.getElem?_cons_zero]; rfl) (by kernel_rfl) (by kernel_rfl) (by kernel_rfl) (by exact fun _ _ _ h => h) (Or.inl ⟨by rfl, fun w9 hS9 => ?hy11⟩) hHeld ?rest11
        case hy11 =>
          clear hS9
          go_simp
          try with_reducible rfl
        try simp only [Act.put, List.setIfInBounds_toArray, List.set_cons_zero, List.set_cons_succ]
        refine wpAnyH_ready (rs := [14]) (by kernel_rfl) (by simp) (AllReadyH.cons (by simp only [List.getElem?_toArray, List.getElem?_cons_succ, List.getElem?_cons_zero]; rfl) (fun K hK => ?_) AllReadyH.nil)
        have r1 := HK2.out.1.2.frozenAt (k * 2 + 1)
        obtain ⟨u9, hu9⟩ := row_cell HK2.out.1.2 (k := k * 2 + 1) (by omega)
        go_simp
        refine hK.out _ _ trivial (fun hHeld => ?_)
        clear hK K
        try simp only [Act.put, List.setIfInBounds_toArray, List.set_cons_zero, List.set_cons_succ]
        refine wpAnyH_done (by kernel_rfl) ?_ _
        go_wp2_with fail
        go_ret
        exact ⟨_, _, _, _, rfl, HPV.out, by omega, HVK2.out, HPF.out⟩
      · skip
        go_simp
        refine (pickNew b a n c [-1, 255, 256] 3 (by omega) (by omega) rfl rfl w4.drew HTW0.out.dr.1).mono ?_
        rintro e x1 ⟨z, hz, rfl, hdz⟩
        have hzi : I64 z := list_i64 (l := [-1, 255, 256]) (by decide) hz
        have TB := Lib.hid (HTW0.out.only hdz)
        clear hdz hz
        go_wp2_with fail
        refine hK.out _ _ trivial (fun hHeld => ?_)
        clear hK K
        try simp only [Act.put, List.setIfInBounds_toArray, List.set_cons_zero, List.set_cons_succ]
        refine wpAnyH_ready (rs := [6, 10]) (by kernel_rfl) (by simp) (AllReadyH.cons (by simp only [List.getElem?_toArray, List.getElem?_cons_succ, List.getElem?_cons_zero]; rfl) (fun K hK => ?_) (AllReadyH.cons (by simp only [List.getElem?_toArray, List.getElem?_cons_succ, List.getElem?_cons_zero]; rfl) (fun K hK => ?_) AllReadyH.nil))
        · skip
          have q1 := TB.out.hdr HHK.out
          dsimp only at q1
          go_simp
          refine hK.out _ _ trivial (fun hHeld => ?_)
          clear hK K
          try simp only [Act.put, List.setIfInBounds_toArray, List.set_cons_zero, List.set_cons_succ]
          refine wpAnyH_ready (rs := [10]) (by kernel_rfl) (by simp) (AllReadyH.cons (by simp only [List.getElem?_toArray, List.getElem?_cons_succ, List.getElem?_cons_zero]; rfl) (fun K hK => ?_) AllReadyH.nil)
          have TC := Lib.hid (TB.out.same (alloc_same x1 (.cells #[.int .i64 z] 3)))
          have NB := Lib.hid (nums_new x1 .i64 z 3)
          go_simp
          refine hK.out _ _ trivial (fun hHeld => ?_)
          clear hK K
          try simp only [Act.put, List.setIfInBounds_toArray, List.set_cons_zero, List.set_cons_succ]
          refine wpAnyH_ready (rs := [11]) (by kernel_rfl) (by simp) (AllReadyH.cons (by simp only [List.getElem?_toArray, List.getElem?_cons_succ, List.getElem?_cons_zero]; rfl) (fun K hK => ?_) AllReadyH.nil)
          have ho := (TC.out.row.2.1 k _ vx HHK.out HVX.out).2.1
          dsimp only at ho
          have hol := ho.len
          have hszb := TC.out.own.span _ rfl
          dsimp only at hszb
          have HOI := Lib.hid ho
          have hox := HOX.out.2
          clear ho
          refine step_app3 _ (by rfl) (.tmp 34) (.tmp 38) 24 (by rfl) .i64 3 i1 (.int .i64 0) 8 Try.underlying24 HJ.out.1 HJ.out.2.1 HJ.out.2.2.1 HJ.out.2.2.2 rfl (by rfl) HOI.out (by rfl) NB.out (by omega) (by omega) (by omega) (by omega) ?_
          intro p2 d2 x2 ho2 hg2 hw2
          have HK2 := Lib.hid (TC.out.kept HHK.out HVX.out hg2)
          have hpi := OwnV.putItems TC.out.ownV HVX.out TC.out.own TC.out.row HHK.out hg2 ho2 (fun ad e => by
            rcases hw2 ad e with q | q
            · exact Or.inl q
            · exact Or.inr (by omega))
          have HPV := Lib.hid hpi.1
          have HPF := Lib.hid (HK2.out.2.row HC.out hpi.2 (fun r e => by cases e; exact hgB))
          have HVK2 := Lib.hid (HVK.out.set k HOX.out.1.1 (y := vx.items ++ [z]) (fun u hu => by
            rcases List.mem_append.1 hu with e | e
            · exact HOX.out.1.2 u e
            · rw [List.mem_singleton.1 e]; exact hzi) (by rw [List.length_append]; simp; omega))
          clear ho2 hg2 hw2 hpi
          refine hK.out _ _ trivial (fun hHeld => ?_)
          clear hK K
          try simp only [Act.put, List.setIfInBounds_toArray, List.set_cons_zero, List.set_cons_succ]
          refine wpAnyH_take (i := 12) (v := ?v12) (by simp only [List.getElem?_toArray, List.getElem?_cons_succ, List.getElem?_cons_zero]; rfl) (by kernel_rfl) (by kernel_rfl) (by kernel_rfl) (by exact fun _ _ _ h => h) (Or.inl ⟨by rfl, fun w9 hS9 => ?hy12⟩) hHeld ?rest12
          case hy12 =>
            clear hS9
            go_simp
            try with_reducible rfl
          try simp only [Act.put, List.setIfInBounds_toArray, List.set_cons_zero, List.set_cons_succ]
          refine wpAnyH_take (i := 13) (v := ?v13) (by simp only [List.getElem?_toArray, List.getElem?_cons_succ, List.getElem?_cons_zero]; rfl) (by kernel_rfl) (by kernel_rfl) (by kernel_rfl) (by exact fun _ _ _ h => h) (Or.inl ⟨by rfl, fun w9 hS9 => ?hy13⟩) hHeld ?rest13
          case hy13 =>
            clear hS9
            go_simp
            try with_reducible rfl
          try simp only [Act.put, List.setIfInBounds_toArray, List.set_cons_zero, List.set_cons_succ]
          refine wpAnyH_ready (rs := [14]) (by kernel_rfl) (by simp) (AllReadyH.cons (by simp only [List.getElem?_toArray, List.getElem?_cons_succ, List.getElem?_cons_zero]; rfl) (fun K hK => ?_) AllReadyH.nil)
          have r1 := HK2.out.1.2.frozenAt (k * 2 + 1)
          obtain ⟨u9, hu9⟩ := row_cell HK2.out.1.2 (k := k * 2 + 1) (by omega)
          go_simp
          refine hK.out _ _ trivial (fun hHeld => ?_)
          clear hK K
          try simp only [Act.put, List.setIfInBounds_toArray, List.set_cons_zero, List.set_cons_succ]
          refine wpAnyH_done (by kernel_rfl) ?_ _
          go_wp2_with fail
          go_ret
          exact ⟨_, _, _, _, rfl, HPV.out, by omega, HVK2.out, HPF.out⟩
        · skip
          have TC := Lib.hid (TB.out.same (alloc_same x1 (.cells #[.int .i64 z] 3)))
          have NB := Lib.hid (nums_new x1 .i64 z 3)
          go_simp
          refine hK.out _ _ trivial (fun hHeld => ?_)
          clear hK K
          try simp only [Act.put, List.setIfInBounds_toArray, List.set_cons_zero, List.set_cons_succ]
          refine wpAnyH_ready (rs := [6]) (by kernel_rfl) (by simp) (AllReadyH.cons (by simp only [List.getElem?_toArray, List.getElem?_cons_succ, List.getElem?_cons_zero]; rfl) (fun K hK => ?_) AllReadyH.nil)
          have q1 := TC.out.hdr HHK.out
          dsimp only at q1
          go_simp
          refine hK.out _ _ trivial (fun hHeld => ?_)
          clear hK K
          try simp only [Act.put, List.setIfInBounds_toArray, List.set_cons_zero, List.set_cons_succ]
          refine wpAnyH_ready (rs := [11]) (by kernel_rfl) (by simp) (AllReadyH.cons (by simp only [List.getElem?_toArray, List.getElem?_cons_succ, List.getElem?_cons_zero]; rfl) (fun K hK => ?_) AllReadyH.nil)
          have ho := (TC.out.row.2.1 k _ vx HHK.out HVX.out).2.1
          dsimp only at ho
          have hol := ho.len
          have hszb := TC.out.own.span _ rfl
          dsimp only at hszb
          have HOI := Lib.hid ho
          have hox := HOX.out.2
          clear ho
          refine step_app3 _ (by rfl) (.tmp 34) (.tmp 38) 24 (by rfl) .i64 3 i1 (.int .i64 0) 8 Try.underlying24 HJ.out.1 HJ.out.2.1 HJ.out.2.2.1 HJ.out.2.2.2 rfl (by rfl) HOI.out (by rfl) NB.out (by omega) (by omega) (by omega) (by omega) ?_
          intro p2 d2 x2 ho2 hg2 hw2
          have HK2 := Lib.hid (TC.out.kept HHK.out HVX.out hg2)
          have hpi := OwnV.putItems TC.out.ownV HVX.out TC.out.own TC.out.row HHK.out hg2 ho2 (fun ad e => by
            rcases hw2 ad e with q | q
            · exact Or.inl q
            · exact Or.inr (by omega))
          have HPV := Lib.hid hpi.1
          have HPF := Lib.hid (HK2.out.2.row HC.out hpi.2 (fun r e => by cases e; exact hgB))
          have HVK2 := Lib.hid (HVK.out.set k HOX.out.1.1 (y := vx.items ++ [z]) (fun u hu => by
            rcases List.mem_append.1 hu with e | e
            · exact HOX.out.1.2 u e
            · rw [List.mem_singleton.1 e]; exact hzi) (by rw [List.length_append]; simp; omega))
          clear ho2 hg2 hw2 hpi
          refine hK.out _ _ trivial (fun hHeld => ?_)
          clear hK K
          try simp only [Act.put, List.setIfInBounds_toArray, List.set_cons_zero, List.set_cons_succ]
          refine wpAnyH_take (i := 12) (v := ?v14) (by simp only [List.getElem?_toArray, List.getElem?_cons_succ, List.getElem?_cons_zero]; rfl) (by kernel_rfl) (by kernel_rfl) (by kernel_rfl) (by exact fun _ _ _ h => h) (Or.inl ⟨by rfl, fun w9 hS9 => ?hy14⟩) hHeld ?rest14
          case hy14 =>
            clear hS9
            go_simp
            try with_reducible rfl
          try simp only [Act.put, List.setIfInBounds_toArray, List.set_cons_zero, List.set_cons_succ]
          refine wpAnyH_take (i := 13) (v := ?v15) (by simp only [List.getElem?_toArray, List.getElem?_cons_succ, List.getElem?_cons_zero]; rfl) (by kernel_rfl) (by kernel_rfl) (by kernel_rfl) (by exact fun _ _ _ h => h) (Or.inl ⟨by rfl, fun w9 hS9 => ?hy15⟩) hHeld ?rest15
          case hy15 =>
            clear hS9
            go_simp
            try with_reducible rfl
          try simp only [Act.put, List.setIfInBounds_toArray, List.set_cons_zero, List.set_cons_succ]
          refine wpAnyH_ready (rs := [14]) (by kernel_rfl) (by simp) (AllReadyH.cons (by simp only [List.getElem?_toArray, List.getElem?_cons_succ, List.getElem?_cons_zero]; rfl) (fun K hK => ?_) AllReadyH.nil)
          have r1 := HK2.out.1.2.frozenAt (k * 2 + 1)
          obtain ⟨u9, hu9⟩ := row_cell HK2.out.1.2 (k := k * 2 + 1) (by omega)
          go_simp
          refine hK.out _ _ trivial (fun hHeld => ?_)
          clear hK K
          try simp only [Act.put, List.setIfInBounds_toArray, List.set_cons_zero, List.set_cons_succ]
          refine wpAnyH_done (by kernel_rfl) ?_ _
          go_wp2_with fail
          go_ret
          exact ⟨_, _, _, _, rfl, HPV.out, by omega, HVK2.out, HPF.out⟩
  have b1 : (y == 1) = false := by simpa using q1
  by_cases q2 : y = 2
  · have b2 : (y == 2) = true := by simpa using q2
    clear q2
    have hs4 := HTW.out.dr.2.size
    have HT5 := Lib.hid (HTW.out.same (alloc_same w4 (.cells #[.int .i64 1, .int .i64 2, .int .i64 3, .int .i64 4, .int .i64 5] 3)))
    have fz := HT5.out.own.2.frozenAt (k * 2 + 1)
    obtain ⟨u, hu⟩ := row_cell HT5.out.own.2 (k := k * 2 + 1) (by omega)
    have hpi := OwnV.putItems HTW.out.ownV HVX.out HTW.out.own HTW.out.row HHK.out (grown_below (alloc_same w4 (.cells #[.int .i64 1, .int .i64 2, .int .i64 3, .int .i64 4, .int .i64 5] 3)) _) (p := some ⟨w4.heap.size, 0, none⟩) (m := 5) (d := 5) (y := [1, 2, 3, 4, 5]) ⟨rfl, World.ownsRow_lit w4 #[.int .i64 1, .int .i64 2, .int .i64 3, .int .i64 4, .int .i64 5] 5 hs4 (by unfold maxLen; omega) rfl⟩ (fun ad e => Or.inr (by cases e; exact Nat.le_refl _))
    have HPV := Lib.hid hpi.1
    have HPF := Lib.hid (HT5.out.dr.row HC.out hpi.2 (fun r e => by cases e; exact hgB))
    have HVK2 := Lib.hid (HVK.out.set k HOX.out.1.1 (y := [1, 2, 3, 4, 5]) (fun z hz => list_i64 (l := [1, 2, 3, 4, 5]) (by decide) hz) (by simp))
    clear hpi
    go_wp2_with fail
    go_ret
    exact ⟨_, _, _, _, rfl, HPV.out, by omega, HVK2.out, HPF.out⟩
  have b2 : (y == 2) = false := by simpa using q2
  by_cases q3 : y = 3
  · have b3 : (y == 3) = true := by simpa using q3
    clear q3
    obtain ⟨v0, hv0⟩ : ∃ v0, v[0]? = some v0 := ⟨_, List.getElem?_eq_getElem (by rw [HLN.out]; omega)⟩
    obtain ⟨⟨z, zp, zm, zc⟩, hh0⟩ : ∃ u : Vh, hs[0]? = some u := ⟨_, List.getElem?_eq_getElem (by rw [HTW.out.row.1, HLN.out]; omega)⟩
    have hz0 := HTW.out.tag hh0
    have hzi : I64 z := by
      have h1 := (HTW.out.row.2.1 0 _ v0 hh0 hv0).1
      have h2 := (HVK4.out v0 (List.mem_of_getElem? hv0)).1.1
      rw [h1] at h2
      exact h2
    rw [Nat.zero_mul] at hz0
    dsimp only at hz0
    have hmi2 : (0 : Int) < (m : Int) := by omega
    have HLM := Lib.hid HTW.out.ownV.lim
    have HNN : Hid (Items Vh.enc 2 (w4.alloc (.cells #[.int .i64 z, .slice none 0 0] 99)) (some ⟨w4.heap.size, 0, none⟩) 1 [⟨z, none, 0, 0⟩]) := Lib.hid (items_new Vh.enc_len w4 ⟨z, none, 0, 0⟩ 99)
    have hsz4 := HTW.out.own.span _ rfl
    dsimp only at hsz4
    clear hv0 hh0
    go_wp2_with (at_builtin; refine wpl_appV2 _ rfl (.tmp 51) (.tmp 57) 25 rfl 99 3 i0 (.agg #[.int .i64 0, .slice none 0 0]) 32 Try.underlying25 HI.out.1 HI.out.2.1 HI.out.2.2.1 HI.out.2.2.2 rfl rfl (HLM.out.same (alloc_same _ _)) rfl HNN.out (Own.nil) (fun ad e => by cases e) (by omega) ?c4 ?c5 ?_)
    case c4 => omega
    case c5 => simp; omega
    intro a5 c5 w5 ho5 hg5
    have HPV := Lib.hid ho5
    have HPF := Lib.hid ((HTW.out.same (alloc_same w4 (.cells #[.int .i64 z, .slice none 0 0] 99))).dr.row HC.out hg5 (fun r e => by
      simp only [Value.ownBlock, Option.some.injEq] at e
      omega))
    have HVK2 := Lib.hid (HVK.out.app (k := z) (y := []) hzi (fun z hz => by cases hz) (by simp))
    clear ho5 hg5
    go_wp2_with fail
    go_ret
    exact ⟨_, _, _, _, rfl, HPV.out, by omega, HVK2.out, HPF.out⟩
  have b3 : (y == 3) = false := by simpa using q3
  clear q0 q1 q2 q3
  have HPV := Lib.hid HTW.out.ownV
  have HPF := Lib.hid HTW.out.dr
  go_wp2_with fail
  go_ret
  exact ⟨_, _, _, _, rfl, HPV.out, by omega, HVK.out, HPF.out⟩
end Go.Proofs.Ytcpnchjgklemgaa
namespace Go.Proofs.Ytcpnchjgklemgaa
open Go.ChangeShapes Go.WideShapes Go.ChangeAt Go.RowKit
set_option linter.unusedVariables false

set_option maxRecDepth 100000 in
theorem copyList_any {a : Option Addr} {n c : Nat} {l : List Int} {w : World} (h : Nums .i64 w a n l) (hn : n ≤ 1000000000000) :
    Calls Try.prog 56 #[.slice a n c] w (Made .i64 3 w.heap.size l w) := by
  have H := Lib.hid h
  clear h
  obtain ⟨i0, hi, hz0, hz1, hz2⟩ := info_parts infoIntS
  have HI := Lib.hid (And.intro hi (And.intro hz0 (And.intro hz1 hz2)))
  clear hi hz0 hz1 hz2
  have KO := Lib.hid (Own.empty (k := .i64) (t := 3) (w := w) (B := w.heap.size) (Nat.le_refl _))
  unfold Made
  go_enter Try.func56, Try.ntmps56
  go_wp2_with (at_builtin; refine wpl_app _ rfl (.tmp 3) (.tmp 4) 24 rfl .i64 3 i0 (.int .i64 0) 8 Try.underlying24 HI.out.1 HI.out.2.1 HI.out.2.2.1 HI.out.2.2.2 rfl rfl KO.out rfl (H.out.same (alloc_same _ _)) (by omega) ?c1 ?c2 ?_)
  case c1 => omega
  case c2 => simp
  intro a1 c1 w1 ho1 hb1
  have HO1 := Lib.hid ho1
  have HB1 := Lib.hid ((alloc_same w (.cells #[] 3)).trans hb1)
  clear ho1 hb1
  go_wp2_with fail
  go_ret
  refine ⟨_, _, _, rfl, ?_, HB1.out⟩
  simpa using HO1.out
end Go.Proofs.Ytcpnchjgklemgaa
namespace Go.Proofs.Ytcpnchjgklemgaa
open Go.ChangeShapes Go.WideShapes Go.ChangeAt Go.RowKit
set_option linter.unusedVariables false
set_option linter.unusedSimpArgs false

/-- What a function leaves that makes an extension. -/
def MadeX (tI : TypeId) (k : Int) (y : List Int) (w : World) (e : Ending) (w' : World) : Prop :=
  ∃ q m d, e = .returned (.agg #[.int .i64 k, .slice q m d]) ∧ Own .i64 tI w' w.heap.size q m d y ∧ Below w.heap.size w w'
set_option maxHeartbeats 4000000 in
set_option maxRecDepth 100000 in
theorem copyExt_any (k : Int) (p : Option Addr) (m c : Nat) (y : List Int) (w : World) (h : Nums .i64 w p m y) (hm : m ≤ 1048576000) :
    Calls Try.prog 126 #[.agg #[.int .i64 k, .slice p m c]] w (MadeX 3 k y w) := by
  have HL := Lib.hid h.len
  obtain ⟨hsz, hX, hM, hB⟩ := two w #[.int .i64 k, .slice p m c] #[.int .i64 0, .slice none 0 0] 99 99
  have HN := Lib.hid (h.same hB)
  have HB := Lib.hid hB
  clear h hB
  go_enter Try.func126, Try.ntmps126
  go_wp2_with fail
  generalize (w.alloc (.cells #[.int .i64 k, .slice p m c] 99)).alloc (.cells #[.int .i64 0, .slice none 0 0] 99) = W0 at *
  have C0 := Lib.hid ((block_cell hX 0).trans rfl)
  have C1 := Lib.hid ((block_cell hX 1).trans rfl)
  have HM := Lib.hid hM
  have hszB := HB.out.size
  clear hX hM
  have HN2 : Hid (Nums .i64 W0.drew p m y) := Lib.hid (HN.out.same (Below.refl _ _).drew)
  go_region_held3 (fun w9 => w9.cell? ⟨w.heap.size, 0, none⟩ = some (.int .i64 k) ∧ w9.cell? ⟨w.heap.size, 1, none⟩ = some (.slice p m c)) (first | exact ⟨cell_stay C0.out HB3.out, cell_stay C1.out HB3.out⟩ | exact ⟨cell_off (cell_stay C0.out HB3.out) ((set_grown _ _ _ _).trans (set_grown _ _ _ _)) (by simp), cell_off (cell_stay C1.out HB3.out) ((set_grown _ _ _ _).trans (set_grown _ _ _ _)) (by simp)⟩ | exact ⟨cell_stay C0.out (Below.refl _ _).drew, cell_stay C1.out (Below.refl _ _).drew⟩) ((first | (go_at_call 56; refine (copyList_any HN2.out (by omega)).mono ?_; rintro e w3 ⟨a3, m3, c3, rfl, ho3, hb3⟩; obtain rfl : m = m3 := (by rw [← ho3.len]; exact HL.out.symm); have HO3 : Hid (Own .i64 3 w3 W0.heap.size a3 m c3 y) := Lib.hid ho3; have HB3 : Hid (Below W0.heap.size W0 w3) := Lib.hid ((Below.refl _ _).drew.trans hb3); have hM3 : w3.heap[w.heap.size + 1]? = some (.cells #[.int .i64 0, .slice none 0 0] 99 (0, 0)) := (HB3.out.block _ (by omega)).trans HM.out; obtain ⟨m0, m1, g0, g1⟩ := two_cells hM3; clear ho3 hb3)))
  obtain ⟨z0, z1, hZ⟩ := two_put hM3 (.int .i64 k) (.slice a3 m c3)
  have HS3 := Lib.hid HO3.out.span
  have HG3 : Hid (Below w.heap.size w w3) := Lib.hid (HB.out.trans (HB3.out.mono hszB))
  have hs3 := HB3.out.size
  clear hM3 m0 m1 g0 g1 hZ
  go_wp2_with fail
  (try simp only [Exit.inBlock, Exit.then])
  refine bodyPost_ret (by simp [results, Try.results126, go_sem, z0, z1]; try rfl) rfl ?_
  have hd : ∀ ad, a3 = some ad → ad.block ≠ w.heap.size + 1 := fun ad e => by
    have := (HS3.out ad e).1
    omega
  have h9 := ((HO3.out.lower hszB).set hd 0 (.int .i64 k)).set hd 1 (.slice a3 m c3)
  exact ⟨_, _, _, rfl, h9, (HG3.out.setCell (by dsimp only; omega) _).setCell (by dsimp only; omega) _⟩
/-- The extensions whose tags are asked for. -/
def whX (f : Int → Bool) (l : List Vl) : List Vl := l.filter fun x => f x.num
theorem knownOf_wh (l : List Vl) (ts : List Int) : knownOf l ts = whX (fun k => decide (k ∈ ts)) l := rfl
theorem wh_yes {f : Int → Bool} {l : List Vl} {j : Nat} {x : Vl} (hx : l[j]? = some x) (h : f x.num = true) : whX f (l.take (j + 1)) = whX f (l.take j) ++ [x] := by
  rw [List.take_add_one, hx]
  simp [whX, h]
theorem wh_no {f : Int → Bool} {l : List Vl} {j : Nat} {x : Vl} (hx : l[j]? = some x) (h : f x.num = false) : whX f (l.take (j + 1)) = whX f (l.take j) := by
  rw [List.take_add_one, hx]
  simp [whX, h]
theorem wh_few (f : Int → Bool) (l : List Vl) : (whX f l).length ≤ l.length := List.length_filter_le _ _
theorem wh_items (f : Int → Bool) : ∀ (l : List Vl), itemsOf (whX f l) ≤ itemsOf l
  | [] => Nat.le_refl _
  | x :: t => by
    have := wh_items f t
    unfold whX itemsOf at *
    rw [List.filter_cons]
    split <;> simp <;> omega
theorem known_yes {l : List Vl} {ts : List Int} {j : Nat} {x : Vl} (hx : l[j]? = some x) (h : x.num ∈ ts) : knownOf (l.take (j + 1)) ts = knownOf (l.take j) ts ++ [x] := by
  rw [List.take_add_one, hx]
  simp [knownOf, h]
theorem known_no {l : List Vl} {ts : List Int} {j : Nat} {x : Vl} (hx : l[j]? = some x) (h : ¬ x.num ∈ ts) : knownOf (l.take (j + 1)) ts = knownOf (l.take j) ts := by
  rw [List.take_add_one, hx]
  simp [knownOf, h]
theorem known_few (l : List Vl) (ts : List Int) : (knownOf l ts).length ≤ l.length := List.length_filter_le _ _
theorem known_items : ∀ (l : List Vl) (ts : List Int), itemsOf (knownOf l ts) ≤ itemsOf l
  | [], _ => Nat.le_refl _
  | x :: t, ts => by
    have := known_items t ts
    unfold knownOf itemsOf at *
    rw [List.filter_cons]
    split <;> simp <;> omega
end Go.Proofs.Ytcpnchjgklemgaa
namespace Go.Proofs.Ytcpnchjgklemgaa
open Go.ChangeShapes Go.WideShapes Go.ChangeAt Go.RowKit
set_option linter.unusedVariables false

def inBd (n l h : Int) : Bool := decide (l ≤ n ∧ n ≤ h)
theorem inBd_yes {n l h : Int} (h1 : l ≤ n) (h2 : n ≤ h) : inBd n l h = true := decide_eq_true ⟨h1, h2⟩
theorem inBd_no {n l h : Int} (h1 : ¬ (l ≤ n ∧ n ≤ h)) : inBd n l h = false := decide_eq_false h1
theorem inBd_iff {n l h : Int} : inBd n l h = true ↔ l ≤ n ∧ n ≤ h := by unfold inBd; exact decide_eq_true_iff
/-- A reserved tag. -/
def resv (t : Int) : Bool := inBd t 0 255 && (t % 16 == 10)
theorem resv_in {t : Int} (h : resv t = true) : 0 ≤ t ∧ t ≤ 255 := by
  unfold resv at h
  rw [Bool.and_eq_true] at h
  exact inBd_iff.1 h.1
theorem inR_b (n l h : Int) (w : World) : Calls Try.prog 119 #[.int .i64 n, .int .i64 l, .int .i64 h] w fun e w' => e = .returned (.bool (inBd n l h)) ∧ w' = w := (inR_any n l h w).mono fun e' w' ⟨h1, h2⟩ => ⟨h1, h2.symm⟩
theorem l1R_b (n l h : Int) (w : World) : Calls Try.prog 81 #[.int .i64 n, .int .i64 l, .int .i64 h] w fun e w' => e = .returned (.bool (inBd n l h)) ∧ w' = w := (l1R_any n l h w).mono fun e' w' ⟨h1, h2⟩ => ⟨h1, h2.symm⟩
set_option maxHeartbeats 1000000 in
set_option maxRecDepth 100000 in
theorem isReserved_any (t : Int) (w : World) : Calls Try.prog 111 #[.int .i64 t] w fun e w' => e = .returned (.bool (resv t)) ∧ w' = w := by
  have H := inR_b t 0 255
  by_cases h : 0 ≤ t ∧ t ≤ 255
  · have hb : inBd t 0 255 = true := inBd_yes h.1 h.2
    have hr : resv t = (t % 16 == 10) := by unfold resv; rw [hb]; rfl
    rw [hr]
    rw [hb] at H
    have h0 := h.1
    have h9 := h.2
    have hm : t.tmod 16 = t % 16 := Int.tmod_eq_emod_of_nonneg h0
    clear hb hr
    go_enter Try.func111, Try.ntmps111
    go_wp2_with (go_at_call 119; refine (H _).mono ?_; rintro e w' ⟨rfl, rfl⟩)
    go_ret
    simp
  · have hb : inBd t 0 255 = false := inBd_no h
    have hr : resv t = false := by unfold resv; rw [hb]; rfl
    rw [hr]
    rw [hb] at H
    clear hb hr
    go_enter Try.func111, Try.ntmps111
    go_wp2_with (go_at_call 119; refine (H _).mono ?_; rintro e w' ⟨rfl, rfl⟩)
    go_ret
    simp
set_option maxHeartbeats 1000000 in
set_option maxRecDepth 100000 in
theorem specIsReserved_any (t : Int) (w : World) : Calls Try.prog 93 #[.int .i64 t] w fun e w' => e = .returned (.bool (resv t)) ∧ w' = w := by
  have H := l1R_b t 0 255
  by_cases h : 0 ≤ t ∧ t ≤ 255
  · have hb : inBd t 0 255 = true := inBd_yes h.1 h.2
    have hr : resv t = (t % 16 == 10) := by unfold resv; rw [hb]; rfl
    rw [hr]
    rw [hb] at H
    have h0 := h.1
    have h9 := h.2
    have hm : t.tmod 16 = t % 16 := Int.tmod_eq_emod_of_nonneg h0
    clear hb hr
    go_enter Try.func93, Try.ntmps93
    go_wp2_with (go_at_call 81; refine (H _).mono ?_; rintro e w' ⟨rfl, rfl⟩)
    go_ret
    simp
  · have hb : inBd t 0 255 = false := inBd_no h
    have hr : resv t = false := by unfold resv; rw [hb]; rfl
    rw [hr]
    rw [hb] at H
    clear hb hr
    go_enter Try.func93, Try.ntmps93
    go_wp2_with (go_at_call 81; refine (H _).mono ?_; rintro e w' ⟨rfl, rfl⟩)
    go_ret
    simp
end Go.Proofs.Ytcpnchjgklemgaa
