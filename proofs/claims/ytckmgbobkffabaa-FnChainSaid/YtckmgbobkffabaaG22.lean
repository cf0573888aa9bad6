/- The pairs of states that are reached: by the program. The pairs of states that are reached, or none where a machine is not valid: by the program. -/
import Derived.Test.YtckmgbobkffabaaG21
import Derived.Test.YtckmgbobkffabaaG18
import Derived.Deep.LoopGhost
import Derived.StillTailTactics
import Derived.Test.YtckmgbobkffabaaG1
namespace Go.Proofs.Ytckmgbobkffabaa
open Go.ChangeShapes Go.WideShapes Go.ChangeAt Go.RowKit
set_option linter.unusedVariables false
set_option linter.unusedSimpArgs false

/-- One pair, in a list of its own. -/
theorem one_row (w : World) (x y : Int) : OwnRs [w.heap.size] (w.heap.size + 2) ((w.alloc (.cells #[.int .i64 x, .int .i64 y] 3)).alloc (.cells #[.slice (some ⟨w.heap.size, 0, none⟩) 2 2] 31)) w.heap.size (w.heap.size + 1) 1 1 [(x, y)] := by
 obtain ⟨hB, hX, hY, hS⟩ := twice w #[.int .i64 x, .int .i64 y] #[.slice (some ⟨w.heap.size, 0, none⟩) 2 2] 3 31
 refine ⟨⟨rfl, rfl, .inr ⟨w.heap.size + 1, 1, _, rfl, by omega, hY, Nat.le_refl _, by unfold maxLen; omega, rfl, rfl⟩⟩, rfl, fun j r p h1 h2 => ?_, fun r hr => ?_, by simp, by omega, by omega, by omega⟩
 ·have hj : j = 0 := by
   have := at_lt h1
   simp at this
   exact this
  subst hj
  simp at h1 h2
  subst h1
  subst h2
  exact hX
 ·have : r = w.heap.size := by simpa using hr
  omega
set_option maxRecDepth 100000 in
theorem pairsOf1_any {va vb : Value} {a b : Mac} (x y : Int) {pa pb : Nat} {ca cb : Array Value} {w : World} (ha : MacW w (.agg ca) a) (hb : MacW w (.agg cb) b) (hz : ∀ z ∈ a.moves, Wmv z) (hz' : ∀ z ∈ b.moves, Wmv z) (hn : a.parts ≤ 10000000) (hn' : b.parts ≤ 10000000)
  (hpa : w.heap[pa]? = some (.cells ca 27 (0, 0))) (hpb : w.heap[pb]? = some (.cells cb 27 (0, 0))) :
  Calls Try.prog 50 #[.int .i64 x, .int .i64 y, .pointer (some ⟨pa, 0, none⟩), .pointer (some ⟨pb, 0, none⟩)] w (MadeR w.heap.size (nextP a b x y) w) := by
 obtain ⟨p, np, cp, q, n, c, e1⟩ := ha.shape
 obtain ⟨p', np', cp', q', n', c', e2⟩ := hb.shape
 cases e1
 cases e2
 obtain ⟨x0, x1, x2, -⟩ := three_cells hpa
 obtain ⟨y0, y1, y2, -⟩ := three_cells hpb
 have HN := Lib.hid (nextPairs_any x y ha hb hz hz' hn hn')
 clear ha hb hz hz' hpa hpb
 unfold MadeR
 go_enter Try.func50, Try.ntmps50
 go_wp2_with fail
 refine HN.out.mono ?_
 rintro e w' ⟨g, m, d, rfl, ho, hb⟩
 have HO := Lib.hid ho
 have HB := Lib.hid hb
 clear ho hb x0 x1 x2 y0 y1 y2
 go_wp2_with fail
 go_ret
 exact ⟨_, _, _, rfl, HO.out, HB.out⟩
set_option maxHeartbeats 4000000 in
set_option maxRecDepth 100000 in
theorem reached_any {a b : Mac} {pa pb : Nat} {ca cb : Array Value} {w : World} (ha : MacW w (.agg ca) a) (hb : MacW w (.agg cb) b) (hz : ∀ z ∈ a.moves, Wmv z) (hz' : ∀ z ∈ b.moves, Wmv z) (hia : isMac a = true) (hib : isMac b = true) (hn : a.parts ≤ 10000000) (hn' : b.parts ≤ 10000000)
  (hpa : w.heap[pa]? = some (.cells ca 27 (0, 0))) (hpb : w.heap[pb]? = some (.cells cb 27 (0, 0))) :
  Calls Try.prog 49 #[.func (.func 50) #[] #[.pointer (some ⟨pa, 0, none⟩), .pointer (some ⟨pb, 0, none⟩)]] w (MadeR w.heap.size (pairsP a b) w) := by
 obtain ⟨i0, hi, hz0, hz1, hz2⟩ := info_parts infoR
 have HI := Lib.hid (And.intro hi (And.intro hz0 (And.intro hz1 hz2)))
 clear hi hz0 hz1 hz2
 have hla : pa < w.heap.size := (Array.getElem?_eq_some_iff.1 hpa).1
 have hlb : pb < w.heap.size := (Array.getElem?_eq_some_iff.1 hpb).1
 have HF : Hid (∀ (x y : Int) (W' : World), Below w.heap.size w W' → Calls Try.prog 50 #[.int .i64 x, .int .i64 y, .pointer (some ⟨pa, 0, none⟩), .pointer (some ⟨pb, 0, none⟩)] W' (MadeR W'.heap.size (nextP a b x y) W')) :=
  Lib.hid fun x y W' hb' => pairsOf1_any (va := .agg ca) (vb := .agg cb) x y (ha.same hb') (hb.same hb') hz hz' hn hn' ((hb'.block _ hla).trans hpa) ((hb'.block _ hlb).trans hpb)
 have HIA := Lib.hid (And.intro hia hib)
 have HLA := Lib.hid (And.intro (isMac_len hia) (isMac_len hib))
 obtain ⟨hB, _, _, hS⟩ := twice w #[.int .i64 0, .int .i64 0] #[.slice (some ⟨w.heap.size, 0, none⟩) 2 2] 3 31
 have hO := (one_row w 0 0)
 have HB0 := Lib.hid hB
 have HO0 : Hid (OwnRs [w.heap.size] ((w.alloc (.cells #[.int .i64 0, .int .i64 0] 3)).alloc (.cells #[.slice (some ⟨w.heap.size, 0, none⟩) 2 2] 31)).heap.size ((w.alloc (.cells #[.int .i64 0, .int .i64 0] 3)).alloc (.cells #[.slice (some ⟨w.heap.size, 0, none⟩) 2 2] 31)) w.heap.size (w.heap.size + 1) 1 1 [(0, 0)]) := Lib.hid (hO.upper (by omega) (Nat.le_refl _))
 clear hB hS hO ha hb hz hz' hpa hpb hia hib
 unfold MadeR
 go_enter Try.func49, Try.ntmps49
 go_wp2_with fail
 generalize (w.alloc (.cells #[.int .i64 0, .int .i64 0] 3)).alloc (.cells #[.slice (some ⟨w.heap.size, 0, none⟩) 2 2] 31) = W0 at *
 go_loopg [3, 4] 36 (fun k s3 s4 wx => ∃ (i : Nat) (rs : List Nat) (g n c : Nat), k + i = 36 ∧ s4 = .int .i64 i ∧ s3 = .slice (some ⟨g, 0, none⟩) n c ∧ OwnRs rs wx.heap.size wx w.heap.size g n c (found a b i) ∧ Below w.heap.size w wx)
 case atStart => exact ⟨0, [w.heap.size], w.heap.size + 1, 1, 1, rfl, rfl, rfl, HO0.out, HB0.out⟩
 case round =>
  obtain ⟨i, rs, g, n, c, hki, rfl, rfl, ho, hb⟩ := hrel
  have hlen : (found a b i).length = n := ho.count
  have h36 := found_len HIA.out.1 HIA.out.2 i
  have HO := Lib.hid ho
  have HB := Lib.hid hb
  clear ho hb
  by_cases hlt : i < n
  ·obtain ⟨r, p, hr, hp, hc0, hrow, o1, o2, o3⟩ := HO.out.at_ hlt
   obtain ⟨d0, d1⟩ := two_cells hrow
   have HP := Lib.hid (found_step hp)
   have D := Lib.hid (And.intro hc0 (And.intro d0 d1))
   have HRI := Lib.hid hr
   clear hr hp hrow hc0 d0 d1
   go_wp2_with fail
   go_step3
   go_wp2_with fail
   go_step3
   go_wp2_with fail
   have HBd : Hid (Below wr.heap.size wr wr.drew) := Lib.hid (Below.refl _ _).drew
   refine wp_region_held_drew (S := fun w9 => w9.cell? ⟨g, i, none⟩ = some (.slice (some ⟨r, 0, none⟩) 2 2) ∧ w9.cell? ⟨r, 0, none⟩ = some (.int .i64 p.1) ∧ w9.cell? ⟨r, 1, none⟩ = some (.int .i64 p.2)) (by kernel_rfl) ⟨cell_stay D.out.1 HBd.out, cell_stay D.out.2.1 HBd.out, cell_stay D.out.2.2 HBd.out⟩ (fun hHeld => ?_)
   refine wpAnyH_take (i := 0) (v := ?v1) (by simp only [get9]; rfl) (by kernel_rfl) (by kernel_rfl) (by kernel_rfl) (by exact fun _ _ _ h => h) (Or.inl ⟨by rfl, fun w9 hS9 => ?hy1⟩) hHeld ?rest1
   case hy1 =>
    dsimp only at hS9
    obtain ⟨q0, q1, q2⟩ := hS9
    go_simp
    try with_reducible rfl
   try simp only [Act.put, set9]
   refine wpAnyH_take (i := 1) (v := ?v2) (by simp only [get9]; rfl) (by kernel_rfl) (by kernel_rfl) (by kernel_rfl) (by exact fun _ _ _ h => h) (Or.inl ⟨by rfl, fun w9 hS9 => ?hy2⟩) hHeld ?rest2
   case hy2 =>
    dsimp only at hS9
    obtain ⟨q0, q1, q2⟩ := hS9
    go_simp
    try with_reducible rfl
   try simp only [Act.put, set9]
   refine wpAnyH_take (i := 2) (v := ?v3) (by simp only [get9]; rfl) (by kernel_rfl) (by kernel_rfl) (by kernel_rfl) (by exact fun _ _ _ h => h) (Or.inl ⟨by rfl, fun w9 hS9 => ?hy3⟩) hHeld ?rest3
   case hy3 =>
    dsimp only at hS9
    obtain ⟨q0, q1, q2⟩ := hS9
    go_simp
    try with_reducible rfl
   try simp only [Act.put, set9]
   refine wpAnyH_take (i := 3) (v := ?v4) (by simp only [get9]; rfl) (by kernel_rfl) (by kernel_rfl) (by kernel_rfl) (by exact fun _ _ _ h => h) (Or.inl ⟨by rfl, fun w9 hS9 => ?hy4⟩) hHeld ?rest4
   case hy4 =>
    dsimp only at hS9
    obtain ⟨q0, q1, q2⟩ := hS9
    go_simp
    try with_reducible rfl
   try simp only [Act.put, set9]
   refine wpAnyH_take (i := 4) (v := ?v5) (by simp only [get9]; rfl) (by kernel_rfl) (by kernel_rfl) (by kernel_rfl) (by exact fun _ _ _ h => h) (Or.inl ⟨by rfl, fun w9 hS9 => ?hy5⟩) hHeld ?rest5
   case hy5 =>
    dsimp only at hS9
    obtain ⟨q0, q1, q2⟩ := hS9
    go_simp
    try with_reducible rfl
   try simp only [Act.put, set9]
   refine wpAnyH_take (i := 5) (v := ?v6) (by simp only [get9]; rfl) (by kernel_rfl) (by kernel_rfl) (by kernel_rfl) (by exact fun _ _ _ h => h) (Or.inl ⟨by rfl, fun w9 hS9 => ?hy6⟩) hHeld ?rest6
   case hy6 =>
    dsimp only at hS9
    obtain ⟨q0, q1, q2⟩ := hS9
    go_simp
    try with_reducible rfl
   try simp only [Act.put, set9]
   refine wpAnyH_take (i := 6) (v := ?v7) (by simp only [get9]; rfl) (by kernel_rfl) (by kernel_rfl) (by kernel_rfl) (by exact fun _ _ _ h => h) (Or.inl ⟨by rfl, fun w9 hS9 => ?hy7⟩) hHeld ?rest7
   case hy7 =>
    dsimp only at hS9
    obtain ⟨q0, q1, q2⟩ := hS9
    go_simp
    try with_reducible rfl
   try simp only [Act.put, set9]
   refine wpAnyH_take (i := 7) (v := ?v8) (by simp only [get9]; rfl) (by kernel_rfl) (by kernel_rfl) (by kernel_rfl) (by exact fun _ _ _ h => h) (Or.inl ⟨by rfl, fun w9 hS9 => ?hy8⟩) hHeld ?rest8
   case hy8 =>
    dsimp only at hS9
    obtain ⟨q0, q1, q2⟩ := hS9
    go_simp
    try with_reducible rfl
   try simp only [Act.put, set9]
   refine wpAnyH_take (i := 8) (v := ?v9) (by simp only [get9]; rfl) (by kernel_rfl) (by kernel_rfl) (by kernel_rfl) (by exact fun _ _ _ h => h) (Or.inl ⟨by rfl, fun w9 hS9 => ?hy9⟩) hHeld ?rest9
   case hy9 =>
    dsimp only at hS9
    obtain ⟨q0, q1, q2⟩ := hS9
    go_simp
    try with_reducible rfl
   try simp only [Act.put, set9]
   refine wpAnyH_take (i := 9) (v := ?v10) (by simp only [get9]; rfl) (by kernel_rfl) (by kernel_rfl) (by kernel_rfl) (by exact fun _ _ _ h => h) (Or.inl ⟨by rfl, fun w9 hS9 => ?hy10⟩) hHeld ?rest10
   case hy10 =>
    dsimp only at hS9
    obtain ⟨q0, q1, q2⟩ := hS9
    go_simp
    try with_reducible rfl
   try simp only [Act.put, set9]
   refine wpAnyH_take (i := 10) (v := ?v11) (by simp only [get9]; rfl) (by kernel_rfl) (by kernel_rfl) (by kernel_rfl) (by exact fun _ _ _ h => h) (Or.inl ⟨by rfl, fun w9 hS9 => ?hy11⟩) hHeld ?rest11
   case hy11 =>
    dsimp only at hS9
    obtain ⟨q0, q1, q2⟩ := hS9
    go_simp
    try with_reducible rfl
   try simp only [Act.put, set9]
   refine wpAnyH_take (i := 11) (v := ?v12) (by simp only [get9]; rfl) (by kernel_rfl) (by kernel_rfl) (by kernel_rfl) (by exact fun _ _ _ h => h) (Or.inl ⟨by rfl, fun w9 hS9 => ?hy12⟩) hHeld ?rest12
   case hy12 =>
    dsimp only at hS9
    obtain ⟨q0, q1, q2⟩ := hS9
    go_simp
    try with_reducible rfl
   try simp only [Act.put, set9]
   refine wpAnyH_take (i := 12) (v := ?v13) (by simp only [get9]; rfl) (by kernel_rfl) (by kernel_rfl) (by kernel_rfl) (by exact fun _ _ _ h => h) (Or.inl ⟨by rfl, fun w9 hS9 => ?hy13⟩) hHeld ?rest13
   case hy13 =>
    dsimp only at hS9
    obtain ⟨q0, q1, q2⟩ := hS9
    go_simp
    try with_reducible rfl
   try simp only [Act.put, set9]
   refine wpAnyH_take (i := 15) (v := ?v14) (by simp only [get9]; rfl) (by kernel_rfl) (by kernel_rfl) (by kernel_rfl) (by exact fun _ _ _ h => h) (Or.inl ⟨by rfl, fun w9 hS9 => ?hy14⟩) hHeld ?rest14
   case hy14 =>
    dsimp only at hS9
    obtain ⟨q0, q1, q2⟩ := hS9
    go_simp
    try with_reducible rfl
   try simp only [Act.put, set9]
   refine wpAnyH_ready (rs := [13]) (by kernel_rfl) (by simp) (AllReadyH.cons (by simp only [get9]; rfl) (fun K hK => ?_) AllReadyH.nil)
   go_simp
   refine (HF.out p.1 p.2 _ (HB.out.trans (HBd.out.mono HB.out.size))).mono ?_
   rintro e w2 ⟨g2, m, c2, rfl, ⟨rs2, ho2⟩, hb2⟩
   have HB2 : Hid (Below wr.heap.size wr w2) := Lib.hid (HBd.out.trans (hb2.mono HBd.out.size))
   have HO2 := Lib.hid ho2
   have HQ2 := Lib.hid hb2
   clear ho2
   clear hb2
   go_wp2_with fail
   refine hK.out _ _ ⟨cell_stay D.out.1 HB2.out, cell_stay D.out.2.1 HB2.out, cell_stay D.out.2.2 HB2.out⟩ (fun hHeld => ?_)
   clear hK K
   try simp only [Act.put, set9]
   refine wpAnyH_take (i := 14) (v := ?v15) (by simp only [get9]; rfl) (by kernel_rfl) (by kernel_rfl) (by kernel_rfl) (by exact fun _ _ _ h => h) (Or.inl ⟨by rfl, fun w9 hS9 => ?hy15⟩) hHeld ?rest15
   case hy15 =>
    dsimp only at hS9
    obtain ⟨q0, q1, q2⟩ := hS9
    go_simp
    try with_reducible rfl
   try simp only [Act.put, set9]
   refine wpAnyH_done (by kernel_rfl) ?_ _
   have hml : (nextP a b p.1 p.2).length = m := HO2.out.count
   have hmle := nextP_len a b p.1 p.2
   have hroom2 := HO2.out.room
   obtain ⟨w3, hwv⟩ : ∃ u, u = w2 := ⟨w2, rfl⟩
   subst hwv
   have HO3 := Lib.hid ((HO.out.same HB2.out).upper (S' := w3.heap.size) HB2.out.size (Nat.le_refl _))
   have HB3 := Lib.hid (HB.out.trans (HB2.out.mono HB.out.size))
   have hs3 : wr.heap.size ≤ w3.heap.size := HB2.out.size
   have hg0 : g < wr.heap.size := HO.out.hi
   have hsep : Hid (∀ r ∈ rs, r < wr.heap.size) := Lib.hid fun r hr => (HO.out.out r hr).2.1
   have HO22 : Hid (OwnRs rs2 w3.heap.size w3 wr.heap.size g2 m c2 (nextP a b p.1 p.2)) := Lib.hid HO2.out
   have hml24 : m ≤ 24 := by have := HLA.out; omega
   obtain ⟨L, hL⟩ : ∃ q, q = wr.heap.size := ⟨_, rfl⟩
   obtain ⟨S2, hS2⟩ : ∃ q, q = w3.heap.size := ⟨_, rfl⟩
   replace HO22 : Hid (OwnRs rs2 S2 w3 L g2 m c2 (nextP a b p.1 p.2)) := Lib.hid (by rw [hS2, hL]; exact HO22.out)
   replace hg0 : g < L := by omega
   replace hsep : Hid (∀ r ∈ rs, r < L) := Lib.hid (by rw [hL]; exact hsep.out)
   have hwL : w.heap.size ≤ L := by have := HB.out.size; omega
   have hS21 : S2 ≤ w3.heap.size := by omega
   have hLS : L ≤ S2 := by omega
   clear HO HO2 HQ2 HB2 D hHeld HBd hL hS2
   go_wp2_with fail
   go_loopg [3, 32] m (fun k s3 s32 wx => ∃ (j : Nat) (rs5 : List Nat) (g5 n5 c5 : Nat), k + j = m ∧ s32 = .int .i64 j ∧ s3 = .slice (some ⟨g5, 0, none⟩) n5 c5 ∧ OwnRs rs5 wx.heap.size wx w.heap.size g5 n5 c5 (growP (found a b i) ((nextP a b p.1 p.2).take j)) ∧ OwnRs rs2 S2 wx L g2 m c2 (nextP a b p.1 p.2) ∧ (g5 < L ∨ S2 ≤ g5) ∧ (∀ r' ∈ rs5, ∀ (j' q' : Nat), j ≤ j' → rs2[j']? = some q' → r' < q') ∧ Below w.heap.size w wx ∧ S2 ≤ wx.heap.size ∧ n5 ≤ n + j)
   case atStart => exact ⟨0, rs, g, n, c, by omega, rfl, rfl, by simpa [growP] using HO3.out, HO22.out, Or.inl hg0, fun r' hr j' q' _ hq => Nat.lt_of_lt_of_le (hsep.out r' hr) (HO22.out.out q' (List.mem_of_getElem? hq)).1, HB3.out, hS21, by omega⟩
   case round =>
    obtain ⟨j, rs5, g5, n5, c5, hkj, rfl, rfl, ho5, ho2, hg5, hsp, hb5, hS5, hn5⟩ := hrel
    obtain ⟨w5, hwv⟩ : ∃ u, u = wr := ⟨wr, rfl⟩
    subst hwv
    have hl5 : (growP (found a b i) ((nextP a b p.1 p.2).take j)).length = n5 := ho5.count
    have hroom5 := ho5.room
    have HO5 := Lib.hid ho5
    have HO2 := Lib.hid ho2
    have HSP := Lib.hid hsp
    have HB5 := Lib.hid hb5
    clear ho5 ho2 hsp hb5
    by_cases hlt2 : j < m
    ·obtain ⟨q, p2, hq, hp2, hcq, hrow2, u1, u2, u3⟩ := HO2.out.at_ hlt2
     have HN2 := Lib.hid (two_own hrow2 u1).nums
     have HQ := Lib.hid hq
     have HP2 := Lib.hid (growP_step (o := found a b i) hp2)
     have HR2 := Lib.hid hrow2
     clear hq hp2 hrow2
     go_wp2_with fail
     go_loopg [38] n5 (fun k s38 wx => ∃ z : Nat, k + z = n5 ∧ s38 = .int .i64 z ∧ (∀ y ∈ (growP (found a b i) ((nextP a b p.1 p.2).take j)).take z, y ≠ p2) ∧ Below w5.heap.size w5 wx)
     case atStart => exact ⟨0, by omega, rfl, by simp, Below.refl _ _⟩
     case round =>
      obtain ⟨z, hkz, rfl, hno, hb6⟩ := hrel
      have HNO := Lib.hid hno
      have HB6 := Lib.hid hb6
      have hs6 := hb6.size
      clear hno hb6
      by_cases hlt3 : z < n5
      ·obtain ⟨r7, p7, hr7, hp7, hc7, hrow7, v1, v2, v3⟩ := (HO5.out.same HB6.out).at_ hlt3
       have HN7 := Lib.hid (two_own hrow7 v1).nums
       have HP7 := Lib.hid hp7
       clear hr7 hp7 hrow7 v1 v2 v3
       by_cases he : p7 = p2
       ·subst he
        have HE := Lib.hid (slicesEqual_yes (c := 2) (d := 2) HN7.out (HN2.out.same HB6.out))
        go_wp2_with fail
        refine HE.out.mono ?_
        rintro e w4 ⟨rfl, hb4⟩
        have HB4 := Lib.hid (HB6.out.trans (hb4.mono HB6.out.size))
        have hs4 := hb4.size
        clear hb4 hc7
        go_wp2_with fail
        go_roundg (m - (j + 1))
        case measure => omega
        case rel => exact ⟨j + 1, rs5, g5, n5, c5, by omega, by go_num, rfl, by rw [HP2.out, grow1, if_pos (List.mem_of_getElem? HP7.out)]; exact (HO5.out.same HB4.out).upper HB4.out.size (Nat.le_refl _), HO2.out.same HB4.out, hg5, fun r' hr j' q' hj' hq' => HSP.out r' hr j' q' (by omega) hq', HB5.out.trans (HB4.out.mono HB5.out.size), by omega, by omega⟩
       ·have hne : [p7.1, p7.2] ≠ [p2.1, p2.2] := fun e => he (by
         injection e with e1 e2
         injection e2 with e2 _
         exact Prod.ext e1 e2)
        have HE := Lib.hid (slicesEqual_no (c := 2) (d := 2) HN7.out (HN2.out.same HB6.out) hne)
        have HNN : Hid (∀ y ∈ (growP (found a b i) ((nextP a b p.1 p.2).take j)).take (z + 1), y ≠ p2) := Lib.hid (by
         intro y hy
         rw [List.take_add_one, HP7.out] at hy
         rcases List.mem_append.1 hy with h | h
         ·exact HNO.out y h
         ·have : y = p7 := by simpa using h
          rw [this]
          exact he)
        clear hne he
        go_wp2_with fail
        refine HE.out.mono ?_
        rintro e w4 ⟨rfl, hb4⟩
        have HB4 := Lib.hid (HB6.out.trans (hb4.mono HB6.out.size))
        clear hb4 hc7
        go_wp2_with fail
        go_roundg (n5 - (z + 1))
        case measure => omega
        case rel => exact ⟨z + 1, by omega, by go_num, HNN.out, HB4.out⟩
      ·obtain rfl : z = n5 := by omega
       have hnin : p2 ∉ growP (found a b i) ((nextP a b p.1 p.2).take j) := fun hm => by
        have := HNO.out p2 (by rw [List.take_of_length_le (by omega)]; exact hm)
        exact this rfl
       have HG : Hid (growP (found a b i) ((nextP a b p.1 p.2).take (j + 1)) = growP (found a b i) ((nextP a b p.1 p.2).take j) ++ [p2]) := Lib.hid (by rw [HP2.out, grow1, if_neg hnin])
       have HAL := Lib.hid (alloc_same wr (.cells #[.slice (some ⟨q, 0, none⟩) 2 2] 31))
       have HIT := Lib.hid (items_new rowEnc_len wr q 31)
       have HOW := Lib.hid ((HO5.out.same HB6.out).same HAL.out)
       have hqS : q < wr.heap.size := by omega
       have HRW : Hid ((wr.alloc (.cells #[.slice (some ⟨q, 0, none⟩) 2 2] 31)).heap[q]? = some (two p2)) := Lib.hid ((HAL.out.block q hqS).trans ((HB6.out.block q (by omega)).trans HR2.out))
       have hWs : (wr.alloc (.cells #[.slice (some ⟨q, 0, none⟩) 2 2] 31)).heap.size = wr.heap.size + 1 := by simp
       have HWS := Lib.hid hWs
       have HOO := Lib.hid HOW.out.own
       change Hid (Items rowEnc 1 (wr.alloc (.cells #[.slice (some ⟨q, 0, none⟩) 2 2] 31)) (some ⟨wr.heap.size, 0, none⟩) 1 [q]) at HIT
       clear hWs hnin
       have hbnd : w.heap.size ≤ (wr.alloc (.cells #[.slice (some ⟨q, 0, none⟩) 2 2] 31)).heap.size := by rw [HWS.out]; omega
       go_wp2_with (at_builtin; refine wpl_app_rows rfl (.tmp 46) (.tmp 48) 33 rfl 31 i0 (.slice none 0 0) 24 Try.underlying33 HI.out.1 HI.out.2.1 HI.out.2.2.1 HI.out.2.2.2 rfl rfl HOO.out rfl HIT.out (by omega) ?c1 hbnd ?_)
       case c1 => omega
       intro g6 c6 w6 ho6 hg6 hw6
       have HO6 := Lib.hid ho6
       have HG6 := Lib.hid hg6
       have HW6 : Hid (g6 = g5 ∨ g6 = (wr.alloc (.cells #[.slice (some ⟨q, 0, none⟩) 2 2] 31)).heap.size) := Lib.hid (by rw [HWS.out]; exact hw6)
       clear ho6 hg6 hw6 hbnd hcq
       go_wp2_with fail
       have hne : q ≠ g5 := by omega
       have hpush := HOW.out.push HRW.out (by omega) hne (fun q' hq' => HSP.out q' hq' j q (Nat.le_refl _) HQ.out) HO6.out HG6.out HW6.out
       have hin : Inside g5 (g5 + 1) (wr.alloc (.cells #[.slice (some ⟨q, 0, none⟩) 2 2] 31)) w6 := Inside.row HG6.out fun r' e' => by cases e'; omega
       have hWs := HWS.out
       have hw6 := HW6.out
       have hsz6 := HG6.out.size
       have hB5 := HB5.out.size
       have hg5w : w.heap.size ≤ g5 := HO5.out.lo
       go_roundg (m - (j + 1))
       case measure => omega
       case rel =>
        refine ⟨j + 1, rs5 ++ [q], g6, z + 1, c6, by omega, by go_num, rfl, by rw [HG.out]; exact hpush, ((HO2.out.same HB6.out).same HAL.out).aside hin (by omega), by omega, fun r' hr j' q' hj' hq' => ?_, hin.to (HB5.out.trans ((HB6.out.trans (HAL.out.mono HB6.out.size)).mono HB5.out.size)) (by omega) (by omega), by omega, by omega⟩
        rcases List.mem_append.1 hr with h1 | h1
        ·exact HSP.out r' h1 j' q' (by omega) hq'
        ·have : r' = q := by simpa using h1
         subst this
         have e1 := HQ.out
         have hj1 := at_lt e1
         have hj2 := at_lt hq'
         rw [List.getElem?_eq_getElem hj1] at e1
         rw [List.getElem?_eq_getElem hj2] at hq'
         rw [← Option.some.inj e1, ← Option.some.inj hq']
         exact List.pairwise_iff_getElem.1 HO2.out.inc _ _ hj1 hj2 (by omega)
    ·obtain rfl : j = m := by omega
     have hfin := HO5.out
     rw [List.take_of_length_le (by omega), ← HP.out] at hfin
     have HFIN := Lib.hid hfin
     clear hfin
     go_wp2_with fail
     (try simp only [Exit.noGoto, Exit.inBlock, Exit.then])
     go_wp2_with fail
     go_roundg (36 - (i + 1))
     case measure => omega
     case rel => exact ⟨i + 1, rs5, g5, n5, c5, by omega, by go_num, rfl, HFIN.out, HB5.out⟩
   
  ·have hend := found_end HIA.out.1 HIA.out.2 (i := i) (by omega) (by omega)
   have HE := Lib.hid hend
   clear hend
   go_wp2_with fail
   (try rw [Exit.noGoto_ret])
   go_ret
   exact ⟨_, _, _, rfl, ⟨rs, by rw [← HE.out]; exact HO.out⟩, HB.out⟩
end Go.Proofs.Ytckmgbobkffabaa
namespace Go.Proofs.Ytckmgbobkffabaa
open Go.ChangeShapes Go.WideShapes Go.ChangeAt Go.RowKit
set_option linter.unusedVariables false
set_option linter.unusedSimpArgs false

theorem empty_rows (w : World) : OwnR (w.alloc (.cells #[] 31)).heap.size (w.alloc (.cells #[] 31)) w.heap.size w.heap.size 0 0 [] := by
 have h := OwnRs.nil (w := w) (Nat.le_refl w.heap.size)
 rw [← World.size_alloc w (.cells #[] 31)] at h
 exact ⟨[], h⟩
set_option maxHeartbeats 2000000 in
set_option maxRecDepth 100000 in
theorem pairsOf_any {va vb : Value} {a b : Mac} {w : World} (ha : MacW w va a) (hb : MacW w vb b) (hz : ∀ z ∈ a.moves, Wmv z) (hz' : ∀ z ∈ b.moves, Wmv z) (hn : a.parts ≤ 10000000) (hn' : b.parts ≤ 10000000) :
  Calls Try.prog 17 #[va, vb] w (MadeR w.heap.size (pairsP a b) w) := by
 obtain ⟨p, np, cp, q, n, c, rfl⟩ := ha.shape
 obtain ⟨p', np', cp', q', n', c', rfl⟩ := hb.shape
 obtain ⟨hB, hX, hY, hS⟩ := twice w #[.int .i64 a.st, .slice p np cp, .slice q n c] #[.int .i64 b.st, .slice p' np' cp', .slice q' n' c'] 27 27
 have HB := Lib.hid hB
 have HX := Lib.hid hX
 have HY := Lib.hid hY
 have HMA := Lib.hid (ha.same hB)
 have HMB := Lib.hid (hb.same hB)
 clear hB hX hY hS ha hb
 have HIA := Lib.hid (fun W' hb' => isMachine_any (HMA.out.same (w' := W') hb'))
 have HIB := Lib.hid (fun W' hb' => isMachine_any (HMB.out.same (w' := W') hb'))
 unfold MadeR
 cases qa : isMac a with
 | false =>
  have HR : Hid (pairsP a b = []) := Lib.hid (by unfold pairsP; rw [qa]; rfl)
  rw [qa] at HIA
  clear qa
  obtain ⟨x0, x1, x2, -⟩ := three_cells HX.out
  go_enter Try.func17, Try.ntmps17
  go_wp2_with fail
  clear x0 x1 x2
  generalize (w.alloc (.cells #[.int .i64 a.st, .slice p np cp, .slice q n c] 27)).alloc (.cells #[.int .i64 b.st, .slice p' np' cp', .slice q' n' c'] 27) = W0 at *
  refine (HIA.out W0 (Below.refl _ _)).mono ?_
  rintro e w1 ⟨rfl, hb1⟩
  have HB1 := Lib.hid (HB.out.trans (hb1.mono HB.out.size))
  clear hb1
  go_wp2_with fail
  go_ret
  have hs1 := HB1.out.size
  refine ⟨_, _, _, rfl, ?_, HB1.out.alloc hs1 _⟩
  rw [HR.out]
  exact (empty_rows w1).lower hs1
 | true =>
  cases qb : isMac b with
  | false =>
   have HR : Hid (pairsP a b = []) := Lib.hid (by unfold pairsP; rw [qb, Bool.and_false]; rfl)
   rw [qa] at HIA
   rw [qb] at HIB
   clear qa qb
   obtain ⟨x0, x1, x2, -⟩ := three_cells HX.out
   go_enter Try.func17, Try.ntmps17
   go_wp2_with fail
   clear x0 x1 x2
   generalize (w.alloc (.cells #[.int .i64 a.st, .slice p np cp, .slice q n c] 27)).alloc (.cells #[.int .i64 b.st, .slice p' np' cp', .slice q' n' c'] 27) = W0 at *
   refine (HIA.out W0 (Below.refl _ _)).mono ?_
   rintro e w1 ⟨rfl, hb1⟩
   have HB1 := Lib.hid (HB.out.trans (hb1.mono HB.out.size))
   obtain ⟨y0, y1, y2, -⟩ := three_cells ((hb1.block _ (Array.getElem?_eq_some_iff.1 HY.out).1).trans HY.out)
   have HD1 := Lib.hid hb1
   clear hb1
   go_wp2_with fail
   clear y0 y1 y2
   refine (HIB.out w1 HD1.out).mono ?_
   rintro e w2 ⟨rfl, hb2⟩
   have HB2 := Lib.hid (HB1.out.trans (hb2.mono HB1.out.size))
   clear hb2
   go_wp2_with fail
   go_ret
   have hs2 := HB2.out.size
   refine ⟨_, _, _, rfl, ?_, HB2.out.alloc hs2 _⟩
   rw [HR.out]
   exact (empty_rows w2).lower hs2
  | true =>
   have HZ := Lib.hid (And.intro (And.intro hz hz') (And.intro qa qb))
   rw [qa] at HIA
   rw [qb] at HIB
   clear qa qb hz hz'
   obtain ⟨x0, x1, x2, -⟩ := three_cells HX.out
   go_enter Try.func17, Try.ntmps17
   go_wp2_with fail
   clear x0 x1 x2
   generalize (w.alloc (.cells #[.int .i64 a.st, .slice p np cp, .slice q n c] 27)).alloc (.cells #[.int .i64 b.st, .slice p' np' cp', .slice q' n' c'] 27) = W0 at *
   refine (HIA.out W0 (Below.refl _ _)).mono ?_
   rintro e w1 ⟨rfl, hb1⟩
   have HB1 := Lib.hid (HB.out.trans (hb1.mono HB.out.size))
   obtain ⟨y0, y1, y2, -⟩ := three_cells ((hb1.block _ (Array.getElem?_eq_some_iff.1 HY.out).1).trans HY.out)
   have HD1 := Lib.hid hb1
   clear hb1
   go_wp2_with fail
   clear y0 y1 y2
   refine (HIB.out w1 HD1.out).mono ?_
   rintro e w2 ⟨rfl, hb2⟩
   have HB2 := Lib.hid (HB1.out.trans (hb2.mono HB1.out.size))
   have HD2 := Lib.hid (HD1.out.trans (hb2.mono HD1.out.size))
   clear hb2
   go_wp2_with fail
   refine (reached_any (HMA.out.same HD2.out) (HMB.out.same HD2.out) HZ.out.1.1 HZ.out.1.2 HZ.out.2.1 HZ.out.2.2 hn hn' ((HD2.out.block _ (Array.getElem?_eq_some_iff.1 HX.out).1).trans HX.out) ((HD2.out.block _ (Array.getElem?_eq_some_iff.1 HY.out).1).trans HY.out)).mono ?_
   rintro e w3 ⟨g, m, d, rfl, ho, hb3⟩
   have HO := Lib.hid (ho.lower HB2.out.size)
   have HB3 := Lib.hid (HB2.out.trans (hb3.mono HB2.out.size))
   clear ho hb3
   go_wp2_with fail
   go_ret
   exact ⟨_, _, _, rfl, HO.out, HB3.out⟩
end Go.Proofs.Ytckmgbobkffabaa
