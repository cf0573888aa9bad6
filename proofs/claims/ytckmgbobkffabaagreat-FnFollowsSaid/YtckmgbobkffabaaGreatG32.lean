/- The pairs of states that two machines reach by the same moves: by the program. A set of pairs of states, as a map of the call's own; what a search by depth leaves. -/
import Derived.Test.YtckmgbobkffabaaGreatG26
import Derived.Test.YtckmgbobkffabaaGreatG31
import Derived.Test.YtckmgbobkffabaaGreatG10
import Derived.Test.YtckmgbobkffabaaGreatG17
import Derived.Test.YtckmgbobkffabaaGreatG5
import Derived.Test.YtckmgbobkffabaaGreatG22
import Derived.Test.YtckmgbobkffabaaGreatG1
namespace Go.Proofs.YtckmgbobkffabaaGreat
open Go.ChangeShapes Go.WideShapes Go.ChangeAt Go.RowKit
set_option linter.unusedVariables false
set_option linter.unusedSimpArgs false

set_option maxRecDepth 100000 in
theorem followPairs1_any {va vb : Value} {a b : Mac} (x y : Int) {pa pb : Nat} {ca cb : Array Value} {w : World} (ha : MacW w (.agg ca) a) (hb : MacW w (.agg cb) b) (hz : ∀ z ∈ a.moves, Wmv z) (hz' : ∀ z ∈ b.moves, Wmv z) (hn : a.parts ≤ 10000000) (hn' : b.parts ≤ 10000000)
  (hpa : w.heap[pa]? = some (.cells ca 27 (0, 0))) (hpb : w.heap[pb]? = some (.cells cb 27 (0, 0))) :
  Calls Tryz.prog 29 #[.int .i64 x, .int .i64 y, .pointer (some ⟨pa, 0, none⟩), .pointer (some ⟨pb, 0, none⟩)] w (MadeR w.heap.size (samesP a b x y) w) := by
 obtain ⟨p, np, cp, q, n, c, e1⟩ := ha.shape
 obtain ⟨p', np', cp', q', n', c', e2⟩ := hb.shape
 cases e1
 cases e2
 obtain ⟨x0, x1, x2, -⟩ := three_cells hpa
 obtain ⟨y0, y1, y2, -⟩ := three_cells hpb
 have HN := Lib.hid (sameMoves_any x y ha hb hz hz' hn hn')
 clear ha hb hz hz' hpa hpb
 unfold MadeR
 go_enter Tryz.func29, Tryz.ntmps29
 go_wp2_with fail
 refine HN.out.mono ?_
 rintro e w' ⟨g, m, d, rfl, ho, hb⟩
 have HO := Lib.hid ho
 have HB := Lib.hid hb
 clear ho hb x0 x1 x2 y0 y1 y2
 go_wp2_with fail
 go_ret
 exact ⟨_, _, _, rfl, HO.out, HB.out⟩
set_option maxHeartbeats 4000000 in
set_option maxRecDepth 100000 in
theorem reachedS_any {a b : Mac} {pa pb : Nat} {ca cb : Array Value} {w : World} (ha : MacW w (.agg ca) a) (hb : MacW w (.agg cb) b) (hz : ∀ z ∈ a.moves, Wmv z) (hz' : ∀ z ∈ b.moves, Wmv z) (hia : isMac a = true) (hib : isMac b = true) (hn : a.parts ≤ 10000000) (hn' : b.parts ≤ 10000000)
  (hpa : w.heap[pa]? = some (.cells ca 27 (0, 0))) (hpb : w.heap[pb]? = some (.cells cb 27 (0, 0))) :
  Calls Tryz.prog 28 #[.func (.func 29) #[] #[.pointer (some ⟨pa, 0, none⟩), .pointer (some ⟨pb, 0, none⟩)]] w (MadeR w.heap.size (followP a b) w) := by
 obtain ⟨i0, hi, hz0, hz1, hz2⟩ := info_parts infoR
 have HI := Lib.hid (And.intro hi (And.intro hz0 (And.intro hz1 hz2)))
 clear hi hz0 hz1 hz2
 have hla : pa < w.heap.size := (Array.getElem?_eq_some_iff.1 hpa).1
 have hlb : pb < w.heap.size := (Array.getElem?_eq_some_iff.1 hpb).1
 have HF : Hid (∀ (x y : Int) (W' : World), Below w.heap.size w W' → Calls Tryz.prog 29 #[.int .i64 x, .int .i64 y, .pointer (some ⟨pa, 0, none⟩), .pointer (some ⟨pb, 0, none⟩)] W' (MadeR W'.heap.size (samesP a b x y) W')) :=
  Lib.hid fun x y W' hb' => followPairs1_any (va := .agg ca) (vb := .agg cb) x y (ha.same hb') (hb.same hb') hz hz' hn hn' ((hb'.block _ hla).trans hpa) ((hb'.block _ hlb).trans hpb)
 have HIA := Lib.hid (And.intro hia hib)
 have HLA := Lib.hid (And.intro (isMac_len hia) (isMac_len hib))
 obtain ⟨hB, _, _, hS⟩ := twice w #[.int .i64 0, .int .i64 0] #[.slice (some ⟨w.heap.size, 0, none⟩) 2 2] 3 36
 have hO := (one_row w 0 0)
 have HB0 := Lib.hid hB
 have HO0 : Hid (OwnRs [w.heap.size] ((w.alloc (.cells #[.int .i64 0, .int .i64 0] 3)).alloc (.cells #[.slice (some ⟨w.heap.size, 0, none⟩) 2 2] 36)).heap.size ((w.alloc (.cells #[.int .i64 0, .int .i64 0] 3)).alloc (.cells #[.slice (some ⟨w.heap.size, 0, none⟩) 2 2] 36)) w.heap.size (w.heap.size + 1) 1 1 [(0, 0)]) := Lib.hid (hO.upper (by omega) (Nat.le_refl _))
 clear hB hS hO ha hb hz hz' hpa hpb hia hib
 unfold MadeR
 go_enter Tryz.func28, Tryz.ntmps28
 go_wp2_with fail
 generalize (w.alloc (.cells #[.int .i64 0, .int .i64 0] 3)).alloc (.cells #[.slice (some ⟨w.heap.size, 0, none⟩) 2 2] 36) = W0 at *
 go_loopg [3, 4] 36 (fun k s3 s4 wx => ∃ (i : Nat) (rs : List Nat) (g n c : Nat), k + i = 36 ∧ s4 = .int .i64 i ∧ s3 = .slice (some ⟨g, 0, none⟩) n c ∧ OwnRs rs wx.heap.size wx w.heap.size g n c (foundG (samesP a b) i) ∧ Below w.heap.size w wx)
 case atStart => exact ⟨0, [w.heap.size], w.heap.size + 1, 1, 1, rfl, rfl, rfl, HO0.out, HB0.out⟩
 case round =>
  obtain ⟨i, rs, g, n, c, hki, rfl, rfl, ho, hb⟩ := hrel
  have hlen : (foundG (samesP a b) i).length = n := ho.count
  have h36 := foundG_len (sames_small HIA.out.1 HIA.out.2) i
  have HO := Lib.hid ho
  have HB := Lib.hid hb
  clear ho hb
  by_cases hlt : i < n
  ·obtain ⟨r, p, hr, hp, hc0, hrow, o1, o2, o3⟩ := HO.out.at_ hlt
   obtain ⟨d0, d1⟩ := two_cells hrow
   have HP := Lib.hid (foundG_step hp)
   have D := Lib.hid (And.intro hc0 (And.intro d0 d1))
   have HRI := Lib.hid hr
   clear hr hp hrow hc0 d0 d1
   go_wp2_with fail
   go_step3
   go_wp2_with fail
   go_step3
   go_wp2_with fail
   have HBd : Hid (Below wr.heap.size wr wr.drew) := Lib.hid (Below.refl _ _).drew
   refine wp_region_held_drew (S := fun w9 => w9.cell? ⟨g, i, none⟩ = some (.slice (some ⟨r, 0, none⟩) 2 2) ∧ w9.cell? ⟨r, 0, none⟩ = some (.int .i64 p.1) ∧ w9.cell? ⟨r, 1, none⟩ = some (.int .i64 p.2)) (by kernel_rfl) ⟨cell_stay D.out.1 HBd.out, cell_stay D.out.2.1 HBd.out, cell_stay D.out.2.2 HBd.out⟩ (fun hHeld => ?_)
   refine wpAnyH_take (i := 0) (v := ?v1) (by simp only [get9]; rfl) (by kernel_rfl) (by kernel_rfl) (by kernel_rfl) (by exact fun _ _ _ h => h) (Or.inl ⟨by rfl, fun w9 hS9 => ?hy1⟩) hHeld ?rest1
   case hy1 =>
    dsimp only at hS9
    obtain ⟨q0, q1, q2⟩ := hS9
    go_simp
    try with_reducible rfl
   try simp only [Act.put, set9]
   refine wpAnyH_take (i := 1) (v := ?v2) (by simp only [get9]; rfl) (by kernel_rfl) (by kernel_rfl) (by kernel_rfl) (by exact fun _ _ _ h => h) (Or.inl ⟨by rfl, fun w9 hS9 => ?hy2⟩) hHeld ?rest2
   case hy2 =>
    dsimp only at hS9
    obtain ⟨q0, q1, q2⟩ := hS9
    go_simp
    try with_reducible rfl
   try simp only [Act.put, set9]
   refine wpAnyH_take (i := 2) (v := ?v3) (by simp only [get9]; rfl) (by kernel_rfl) (by kernel_rfl) (by kernel_rfl) (by exact fun _ _ _ h => h) (Or.inl ⟨by rfl, fun w9 hS9 => ?hy3⟩) hHeld ?rest3
   case hy3 =>
    dsimp only at hS9
    obtain ⟨q0, q1, q2⟩ := hS9
    go_simp
    try with_reducible rfl
   try simp only [Act.put, set9]
   refine wpAnyH_take (i := 3) (v := ?v4) (by simp only [get9]; rfl) (by kernel_rfl) (by kernel_rfl) (by kernel_rfl) (by exact fun _ _ _ h => h) (Or.inl ⟨by rfl, fun w9 hS9 => ?hy4⟩) hHeld ?rest4
   case hy4 =>
    dsimp only at hS9
    obtain ⟨q0, q1, q2⟩ := hS9
    go_simp
    try with_reducible rfl
   try simp only [Act.put, set9]
   refine wpAnyH_take (i := 4) (v := ?v5) (by simp only [get9]; rfl) (by kernel_rfl) (by kernel_rfl) (by kernel_rfl) (by exact fun _ _ _ h => h) (Or.inl ⟨by rfl, fun w9 hS9 => ?hy5⟩) hHeld ?rest5
   case hy5 =>
    dsimp only at hS9
    obtain ⟨q0, q1, q2⟩ := hS9
    go_simp
    try with_reducible rfl
   try simp only [Act.put, set9]
   refine wpAnyH_take (i := 5) (v := ?v6) (by simp only [get9]; rfl) (by kernel_rfl) (by kernel_rfl) (by kernel_rfl) (by exact fun _ _ _ h => h) (Or.inl ⟨by rfl, fun w9 hS9 => ?hy6⟩) hHeld ?rest6
   case hy6 =>
    dsimp only at hS9
    obtain ⟨q0, q1, q2⟩ := hS9
    go_simp
    try with_reducible rfl
   try simp only [Act.put, set9]
   refine wpAnyH_take (i := 6) (v := ?v7) (by simp only [get9]; rfl) (by kernel_rfl) (by kernel_rfl) (by kernel_rfl) (by exact fun _ _ _ h => h) (Or.inl ⟨by rfl, fun w9 hS9 => ?hy7⟩) hHeld ?rest7
   case hy7 =>
    dsimp only at hS9
    obtain ⟨q0, q1, q2⟩ := hS9
    go_simp
    try with_reducible rfl
   try simp only [Act.put, set9]
   refine wpAnyH_take (i := 7) (v := ?v8) (by simp only [get9]; rfl) (by kernel_rfl) (by kernel_rfl) (by kernel_rfl) (by exact fun _ _ _ h => h) (Or.inl ⟨by rfl, fun w9 hS9 => ?hy8⟩) hHeld ?rest8
   case hy8 =>
    dsimp only at hS9
    obtain ⟨q0, q1, q2⟩ := hS9
    go_simp
    try with_reducible rfl
   try simp only [Act.put, set9]
   refine wpAnyH_take (i := 8) (v := ?v9) (by simp only [get9]; rfl) (by kernel_rfl) (by kernel_rfl) (by kernel_rfl) (by exact fun _ _ _ h => h) (Or.inl ⟨by rfl, fun w9 hS9 => ?hy9⟩) hHeld ?rest9
   case hy9 =>
    dsimp only at hS9
    obtain ⟨q0, q1, q2⟩ := hS9
    go_simp
    try with_reducible rfl
   try simp only [Act.put, set9]
   refine wpAnyH_take (i := 9) (v := ?v10) (by simp only [get9]; rfl) (by kernel_rfl) (by kernel_rfl) (by kernel_rfl) (by exact fun _ _ _ h => h) (Or.inl ⟨by rfl, fun w9 hS9 => ?hy10⟩) hHeld ?rest10
   case hy10 =>
    dsimp only at hS9
    obtain ⟨q0, q1, q2⟩ := hS9
    go_simp
    try with_reducible rfl
   try simp only [Act.put, set9]
   refine wpAnyH_take (i := 10) (v := ?v11) (by simp only [get9]; rfl) (by kernel_rfl) (by kernel_rfl) (by kernel_rfl) (by exact fun _ _ _ h => h) (Or.inl ⟨by rfl, fun w9 hS9 => ?hy11⟩) hHeld ?rest11
   case hy11 =>
    dsimp only at hS9
    obtain ⟨q0, q1, q2⟩ := hS9
    go_simp
    try with_reducible rfl
   try simp only [Act.put, set9]
   refine wpAnyH_take (i := 11) (v := ?v12) (by simp only [get9]; rfl) (by kernel_rfl) (by kernel_rfl) (by kernel_rfl) (by exact fun _ _ _ h => h) (Or.inl ⟨by rfl, fun w9 hS9 => ?hy12⟩) hHeld ?rest12
   case hy12 =>
    dsimp only at hS9
    obtain ⟨q0, q1, q2⟩ := hS9
    go_simp
    try with_reducible rfl
   try simp only [Act.put, set9]
   refine wpAnyH_take (i := 12) (v := ?v13) (by simp only [get9]; rfl) (by kernel_rfl) (by kernel_rfl) (by kernel_rfl) (by exact fun _ _ _ h => h) (Or.inl ⟨by rfl, fun w9 hS9 => ?hy13⟩) hHeld ?rest13
   case hy13 =>
    dsimp only at hS9
    obtain ⟨q0, q1, q2⟩ := hS9
    go_simp
    try with_reducible rfl
   try simp only [Act.put, set9]
   refine wpAnyH_take (i := 15) (v := ?v14) (by simp only [get9]; rfl) (by kernel_rfl) (by kernel_rfl) (by kernel_rfl) (by exact fun _ _ _ h => h) (Or.inl ⟨by rfl, fun w9 hS9 => ?hy14⟩) hHeld ?rest14
   case hy14 =>
    dsimp only at hS9
    obtain ⟨q0, q1, q2⟩ := hS9
    go_simp
    try with_reducible rfl
   try simp only [Act.put, set9]
   refine wpAnyH_ready (rs := [13]) (by kernel_rfl) (by simp) (AllReadyH.cons (by simp only [get9]; rfl) (fun K hK => ?_) AllReadyH.nil)
   go_simp
   refine (HF.out p.1 p.2 _ (HB.out.trans (HBd.out.mono HB.out.size))).mono ?_
   rintro e w2 ⟨g2, m, c2, rfl, ⟨rs2, ho2⟩, hb2⟩
   have HB2 : Hid (Below wr.heap.size wr w2) := Lib.hid (HBd.out.trans (hb2.mono HBd.out.size))
   have HO2 := Lib.hid ho2
   have HQ2 := Lib.hid hb2
   clear ho2
   clear hb2
   go_wp2_with fail
   refine hK.out _ _ ⟨cell_stay D.out.1 HB2.out, cell_stay D.out.2.1 HB2.out, cell_stay D.out.2.2 HB2.out⟩ (fun hHeld => ?_)
   clear hK K
   try simp only [Act.put, set9]
   refine wpAnyH_take (i := 14) (v := ?v15) (by simp only [get9]; rfl) (by kernel_rfl) (by kernel_rfl) (by kernel_rfl) (by exact fun _ _ _ h => h) (Or.inl ⟨by rfl, fun w9 hS9 => ?hy15⟩) hHeld ?rest15
   case hy15 =>
    dsimp only at hS9
    obtain ⟨q0, q1, q2⟩ := hS9
    go_simp
    try with_reducible rfl
   try simp only [Act.put, set9]
   refine wpAnyH_done (by kernel_rfl) ?_ _
   have hml : (samesP a b p.1 p.2).length = m := HO2.out.count
   have hmle := samesP_len a b p.1 p.2
   have hroom2 := HO2.out.room
   obtain ⟨w3, hwv⟩ : ∃ u, u = w2 := ⟨w2, rfl⟩
   subst hwv
   have HO3 := Lib.hid ((HO.out.same HB2.out).upper (S' := w3.heap.size) HB2.out.size (Nat.le_refl _))
   have HB3 := Lib.hid (HB.out.trans (HB2.out.mono HB.out.size))
   have hs3 : wr.heap.size ≤ w3.heap.size := HB2.out.size
   have hg0 : g < wr.heap.size := HO.out.hi
   have hsep : Hid (∀ r ∈ rs, r < wr.heap.size) := Lib.hid fun r hr => (HO.out.out r hr).2.1
   have HO22 : Hid (OwnRs rs2 w3.heap.size w3 wr.heap.size g2 m c2 (samesP a b p.1 p.2)) := Lib.hid HO2.out
   have hml24 : m ≤ 24 := by have := HLA.out; omega
   obtain ⟨L, hL⟩ : ∃ q, q = wr.heap.size := ⟨_, rfl⟩
   obtain ⟨S2, hS2⟩ : ∃ q, q = w3.heap.size := ⟨_, rfl⟩
   replace HO22 : Hid (OwnRs rs2 S2 w3 L g2 m c2 (samesP a b p.1 p.2)) := Lib.hid (by rw [hS2, hL]; exact HO22.out)
   replace hg0 : g < L := by omega
   replace hsep : Hid (∀ r ∈ rs, r < L) := Lib.hid (by rw [hL]; exact hsep.out)
   have hwL : w.heap.size ≤ L := by have := HB.out.size; omega
   have hS21 : S2 ≤ w3.heap.size := by omega
   have hLS : L ≤ S2 := by omega
   clear HO HO2 HQ2 HB2 D hHeld HBd hL hS2
   go_wp2_with fail
   go_loopg [3, 32] m (fun k s3 s32 wx => ∃ (j : Nat) (rs5 : List Nat) (g5 n5 c5 : Nat), k + j = m ∧ s32 = .int .i64 j ∧ s3 = .slice (some ⟨g5, 0, none⟩) n5 c5 ∧ OwnRs rs5 wx.heap.size wx w.heap.size g5 n5 c5 (growP (foundG (samesP a b) i) ((samesP a b p.1 p.2).take j)) ∧ OwnRs rs2 S2 wx L g2 m c2 (samesP a b p.1 p.2) ∧ (g5 < L ∨ S2 ≤ g5) ∧ (∀ r' ∈ rs5, ∀ (j' q' : Nat), j ≤ j' → rs2[j']? = some q' → r' < q') ∧ Below w.heap.size w wx ∧ S2 ≤ wx.heap.size ∧ n5 ≤ n + j)
   case atStart => exact ⟨0, rs, g, n, c, by omega, rfl, rfl, by simpa [growP] using HO3.out, HO22.out, Or.inl hg0, fun r' hr j' q' _ hq => Nat.lt_of_lt_of_le (hsep.out r' hr) (HO22.out.out q' (List.mem_of_getElem? hq)).1, HB3.out, hS21, by omega⟩
   case round =>
    obtain ⟨j, rs5, g5, n5, c5, hkj, rfl, rfl, ho5, ho2, hg5, hsp, hb5, hS5, hn5⟩ := hrel
    obtain ⟨w5, hwv⟩ : ∃ u, u = wr := ⟨wr, rfl⟩
    subst hwv
    have hl5 : (growP (foundG (samesP a b) i) ((samesP a b p.1 p.2).take j)).length = n5 := ho5.count
    have hroom5 := ho5.room
    have HO5 := Lib.hid ho5
    have HO2 := Lib.hid ho2
    have HSP := Lib.hid hsp
    have HB5 := Lib.hid hb5
    clear ho5 ho2 hsp hb5
    by_cases hlt2 : j < m
    ·obtain ⟨q, p2, hq, hp2, hcq, hrow2, u1, u2, u3⟩ := HO2.out.at_ hlt2
     have HN2 := Lib.hid (two_own hrow2 u1).nums
     have HQ := Lib.hid hq
     have HP2 := Lib.hid (growP_step (o := foundG (samesP a b) i) hp2)
     have HR2 := Lib.hid hrow2
     clear hq hp2 hrow2
     go_wp2_with fail
     go_loopg [38] n5 (fun k s38 wx => ∃ z : Nat, k + z = n5 ∧ s38 = .int .i64 z ∧ (∀ y ∈ (growP (foundG (samesP a b) i) ((samesP a b p.1 p.2).take j)).take z, y ≠ p2) ∧ Below w5.heap.size w5 wx)
     case atStart => exact ⟨0, by omega, rfl, by simp, Below.refl _ _⟩
     case round =>
      obtain ⟨z, hkz, rfl, hno, hb6⟩ := hrel
      have HNO := Lib.hid hno
      have HB6 := Lib.hid hb6
      have hs6 := hb6.size
      clear hno hb6
      by_cases hlt3 : z < n5
      ·obtain ⟨r7, p7, hr7, hp7, hc7, hrow7, v1, v2, v3⟩ := (HO5.out.same HB6.out).at_ hlt3
       have HN7 := Lib.hid (two_own hrow7 v1).nums
       have HP7 := Lib.hid hp7
       clear hr7 hp7 hrow7 v1 v2 v3
       by_cases he : p7 = p2
       ·subst he
        have HE := Lib.hid (slicesEqual_yes (c := 2) (d := 2) HN7.out (HN2.out.same HB6.out))
        go_wp2_with fail
        refine HE.out.mono ?_
        rintro e w4 ⟨rfl, hb4⟩
        have HB4 := Lib.hid (HB6.out.trans (hb4.mono HB6.out.size))
        have hs4 := hb4.size
        clear hb4 hc7
        go_wp2_with fail
        go_roundg (m - (j + 1))
        case measure => omega
        case rel => exact ⟨j + 1, rs5, g5, n5, c5, by omega, by go_num, rfl, by rw [HP2.out, grow1, if_pos (List.mem_of_getElem? HP7.out)]; exact (HO5.out.same HB4.out).upper HB4.out.size (Nat.le_refl _), HO2.out.same HB4.out, hg5, fun r' hr j' q' hj' hq' => HSP.out r' hr j' q' (by omega) hq', HB5.out.trans (HB4.out.mono HB5.out.size), by omega, by omega⟩
       ·have hne : [p7.1, p7.2] ≠ [p2.1, p2.2] := fun e => he (by
         injection e with e1 e2
         injection e2 with e2 _
         exact Prod.ext e1 e2)
        have HE := Lib.hid (slicesEqual_no (c := 2) (d := 2) HN7.out (HN2.out.same HB6.out) hne)
        have HNN : Hid (∀ y ∈ (growP (foundG (samesP a b) i) ((samesP a b p.1 p.2).take j)).take (z + 1), y ≠ p2) := Lib.hid (by
         intro y hy
         rw [List.take_add_one, HP7.out] at hy
         rcases List.mem_append.1 hy with h | h
         ·exact HNO.out y h
         ·have : y = p7 := by simpa using h
          rw [this]
          exact he)
        clear hne he
        go_wp2_with fail
        refine HE.out.mono ?_
        rintro e w4 ⟨rfl, hb4⟩
        have HB4 := Lib.hid (HB6.out.trans (hb4.mono HB6.out.size))
        clear hb4 hc7
        go_wp2_with fail
        go_roundg (n5 - (z + 1))
        case measure => omega
        case rel => exact ⟨z + 1, by omega, by go_num, HNN.out, HB4.out⟩
      ·obtain rfl : z = n5 := by omega
       have hnin : p2 ∉ growP (foundG (samesP a b) i) ((samesP a b p.1 p.2).take j) := fun hm => by
        have := HNO.out p2 (by rw [List.take_of_length_le (by omega)]; exact hm)
        exact this rfl
       have HG : Hid (growP (foundG (samesP a b) i) ((samesP a b p.1 p.2).take (j + 1)) = growP (foundG (samesP a b) i) ((samesP a b p.1 p.2).take j) ++ [p2]) := Lib.hid (by rw [HP2.out, grow1, if_neg hnin])
       have HAL := Lib.hid (alloc_same wr (.cells #[.slice (some ⟨q, 0, none⟩) 2 2] 36))
       have HIT := Lib.hid (items_new rowEnc_len wr q 36)
       have HOW := Lib.hid ((HO5.out.same HB6.out).same HAL.out)
       have hqS : q < wr.heap.size := by omega
       have HRW : Hid ((wr.alloc (.cells #[.slice (some ⟨q, 0, none⟩) 2 2] 36)).heap[q]? = some (two p2)) := Lib.hid ((HAL.out.block q hqS).trans ((HB6.out.block q (by omega)).trans HR2.out))
       have hWs : (wr.alloc (.cells #[.slice (some ⟨q, 0, none⟩) 2 2] 36)).heap.size = wr.heap.size + 1 := by simp
       have HWS := Lib.hid hWs
       have HOO := Lib.hid HOW.out.own
       change Hid (Items rowEnc 1 (wr.alloc (.cells #[.slice (some ⟨q, 0, none⟩) 2 2] 36)) (some ⟨wr.heap.size, 0, none⟩) 1 [q]) at HIT
       clear hWs hnin
       have hbnd : w.heap.size ≤ (wr.alloc (.cells #[.slice (some ⟨q, 0, none⟩) 2 2] 36)).heap.size := by rw [HWS.out]; omega
       go_wp2_with (at_builtin; refine wpl_app_rows rfl (.tmp 46) (.tmp 48) 33 rfl 36 i0 (.slice none 0 0) 24 Tryz.underlying33 HI.out.1 HI.out.2.1 HI.out.2.2.1 HI.out.2.2.2 rfl rfl HOO.out rfl HIT.out (by omega) ?c1 hbnd ?_)
       case c1 => omega
       intro g6 c6 w6 ho6 hg6 hw6
       have HO6 := Lib.hid ho6
       have HG6 := Lib.hid hg6
       have HW6 : Hid (g6 = g5 ∨ g6 = (wr.alloc (.cells #[.slice (some ⟨q, 0, none⟩) 2 2] 36)).heap.size) := Lib.hid (by rw [HWS.out]; exact hw6)
       clear ho6 hg6 hw6 hbnd hcq
       go_wp2_with fail
       have hne : q ≠ g5 := by omega
       have hpush := HOW.out.push HRW.out (by omega) hne (fun q' hq' => HSP.out q' hq' j q (Nat.le_refl _) HQ.out) HO6.out HG6.out HW6.out
       have hin : Inside g5 (g5 + 1) (wr.alloc (.cells #[.slice (some ⟨q, 0, none⟩) 2 2] 36)) w6 := Inside.row HG6.out fun r' e' => by cases e'; omega
       have hWs := HWS.out
       have hw6 := HW6.out
       have hsz6 := HG6.out.size
       have hB5 := HB5.out.size
       have hg5w : w.heap.size ≤ g5 := HO5.out.lo
       go_roundg (m - (j + 1))
       case measure => omega
       case rel =>
        refine ⟨j + 1, rs5 ++ [q], g6, z + 1, c6, by omega, by go_num, rfl, by rw [HG.out]; exact hpush, ((HO2.out.same HB6.out).same HAL.out).aside hin (by omega), by omega, fun r' hr j' q' hj' hq' => ?_, hin.to (HB5.out.trans ((HB6.out.trans (HAL.out.mono HB6.out.size)).mono HB5.out.size)) (by omega) (by omega), by omega, by omega⟩
        rcases List.mem_append.1 hr with h1 | h1
        ·exact HSP.out r' h1 j' q' (by omega) hq'
        ·have : r' = q := by simpa using h1
         subst this
         have e1 := HQ.out
         have hj1 := at_lt e1
         have hj2 := at_lt hq'
         rw [List.getElem?_eq_getElem hj1] at e1
         rw [List.getElem?_eq_getElem hj2] at hq'
         rw [← Option.some.inj e1, ← Option.some.inj hq']
         exact List.pairwise_iff_getElem.1 HO2.out.inc _ _ hj1 hj2 (by omega)
    ·obtain rfl : j = m := by omega
     have hfin := HO5.out
     rw [List.take_of_length_le (by omega), ← HP.out] at hfin
     have HFIN := Lib.hid hfin
     clear hfin
     go_wp2_with fail
     (try simp only [Exit.noGoto, Exit.inBlock, Exit.then])
     go_wp2_with fail
     go_roundg (36 - (i + 1))
     case measure => omega
     case rel => exact ⟨i + 1, rs5, g5, n5, c5, by omega, by go_num, rfl, HFIN.out, HB5.out⟩
   
  ·have hend := (foundG_end (nx := samesP a b) (i := i) (by omega) (by omega)).trans (followP_yes HIA.out.1 HIA.out.2).symm
   have HE := Lib.hid hend
   clear hend
   go_wp2_with fail
   (try rw [Exit.noGoto_ret])
   go_ret
   exact ⟨_, _, _, rfl, ⟨rs, by rw [← HE.out]; exact HO.out⟩, HB.out⟩
set_option maxHeartbeats 2000000 in
set_option maxRecDepth 100000 in
theorem followPairs_any {va vb : Value} {a b : Mac} {w : World} (ha : MacW w va a) (hb : MacW w vb b) (hz : ∀ z ∈ a.moves, Wmv z) (hz' : ∀ z ∈ b.moves, Wmv z) (hn : a.parts ≤ 10000000) (hn' : b.parts ≤ 10000000) :
  Calls Tryz.prog 12 #[va, vb] w (MadeR w.heap.size (followP a b) w) := by
 obtain ⟨p, np, cp, q, n, c, rfl⟩ := ha.shape
 obtain ⟨p', np', cp', q', n', c', rfl⟩ := hb.shape
 obtain ⟨hB, hX, hY, hS⟩ := twice w #[.int .i64 a.st, .slice p np cp, .slice q n c] #[.int .i64 b.st, .slice p' np' cp', .slice q' n' c'] 27 27
 have HB := Lib.hid hB
 have HX := Lib.hid hX
 have HY := Lib.hid hY
 have HMA := Lib.hid (ha.same hB)
 have HMB := Lib.hid (hb.same hB)
 clear hB hX hY hS ha hb
 have HIA := Lib.hid (fun W' hb' => isMachine_any (HMA.out.same (w' := W') hb'))
 have HIB := Lib.hid (fun W' hb' => isMachine_any (HMB.out.same (w' := W') hb'))
 unfold MadeR
 cases qa : isMac a with
 | false =>
  have HR : Hid (followP a b = []) := Lib.hid (by unfold followP; rw [qa]; rfl)
  rw [qa] at HIA
  clear qa
  obtain ⟨x0, x1, x2, -⟩ := three_cells HX.out
  go_enter Tryz.func12, Tryz.ntmps12
  go_wp2_with fail
  clear x0 x1 x2
  generalize (w.alloc (.cells #[.int .i64 a.st, .slice p np cp, .slice q n c] 27)).alloc (.cells #[.int .i64 b.st, .slice p' np' cp', .slice q' n' c'] 27) = W0 at *
  refine (HIA.out W0 (Below.refl _ _)).mono ?_
  rintro e w1 ⟨rfl, hb1⟩
  have HB1 := Lib.hid (HB.out.trans (hb1.mono HB.out.size))
  clear hb1
  go_wp2_with fail
  go_ret
  have hs1 := HB1.out.size
  refine ⟨_, _, _, rfl, ?_, HB1.out.alloc hs1 _⟩
  rw [HR.out]
  exact (empty_rows w1).lower hs1
 | true =>
  cases qb : isMac b with
  | false =>
   have HR : Hid (followP a b = []) := Lib.hid (by unfold followP; rw [qb, Bool.and_false]; rfl)
   rw [qa] at HIA
   rw [qb] at HIB
   clear qa qb
   obtain ⟨x0, x1, x2, -⟩ := three_cells HX.out
   go_enter Tryz.func12, Tryz.ntmps12
   go_wp2_with fail
   clear x0 x1 x2
   generalize (w.alloc (.cells #[.int .i64 a.st, .slice p np cp, .slice q n c] 27)).alloc (.cells #[.int .i64 b.st, .slice p' np' cp', .slice q' n' c'] 27) = W0 at *
   refine (HIA.out W0 (Below.refl _ _)).mono ?_
   rintro e w1 ⟨rfl, hb1⟩
   have HB1 := Lib.hid (HB.out.trans (hb1.mono HB.out.size))
   obtain ⟨y0, y1, y2, -⟩ := three_cells ((hb1.block _ (Array.getElem?_eq_some_iff.1 HY.out).1).trans HY.out)
   have HD1 := Lib.hid hb1
   clear hb1
   go_wp2_with fail
   clear y0 y1 y2
   refine (HIB.out w1 HD1.out).mono ?_
   rintro e w2 ⟨rfl, hb2⟩
   have HB2 := Lib.hid (HB1.out.trans (hb2.mono HB1.out.size))
   clear hb2
   go_wp2_with fail
   go_ret
   have hs2 := HB2.out.size
   refine ⟨_, _, _, rfl, ?_, HB2.out.alloc hs2 _⟩
   rw [HR.out]
   exact (empty_rows w2).lower hs2
  | true =>
   have HZ := Lib.hid (And.intro (And.intro hz hz') (And.intro qa qb))
   rw [qa] at HIA
   rw [qb] at HIB
   clear qa qb hz hz'
   obtain ⟨x0, x1, x2, -⟩ := three_cells HX.out
   go_enter Tryz.func12, Tryz.ntmps12
   go_wp2_with fail
   clear x0 x1 x2
   generalize (w.alloc (.cells #[.int .i64 a.st, .slice p np cp, .slice q n c] 27)).alloc (.cells #[.int .i64 b.st, .slice p' np' cp', .slice q' n' c'] 27) = W0 at *
   refine (HIA.out W0 (Below.refl _ _)).mono ?_
   rintro e w1 ⟨rfl, hb1⟩
   have HB1 := Lib.hid (HB.out.trans (hb1.mono HB.out.size))
   obtain ⟨y0, y1, y2, -⟩ := three_cells ((hb1.block _ (Array.getElem?_eq_some_iff.1 HY.out).1).trans HY.out)
   have HD1 := Lib.hid hb1
   clear hb1
   go_wp2_with fail
   clear y0 y1 y2
   refine (HIB.out w1 HD1.out).mono ?_
   rintro e w2 ⟨rfl, hb2⟩
   have HB2 := Lib.hid (HB1.out.trans (hb2.mono HB1.out.size))
   have HD2 := Lib.hid (HD1.out.trans (hb2.mono HD1.out.size))
   clear hb2
   go_wp2_with fail
   refine (reachedS_any (HMA.out.same HD2.out) (HMB.out.same HD2.out) HZ.out.1.1 HZ.out.1.2 HZ.out.2.1 HZ.out.2.2 hn hn' ((HD2.out.block _ (Array.getElem?_eq_some_iff.1 HX.out).1).trans HX.out) ((HD2.out.block _ (Array.getElem?_eq_some_iff.1 HY.out).1).trans HY.out)).mono ?_
   rintro e w3 ⟨g, m, d, rfl, ho, hb3⟩
   have HO := Lib.hid (ho.lower HB2.out.size)
   have HB3 := Lib.hid (HB2.out.trans (hb3.mono HB2.out.size))
   clear ho hb3
   go_wp2_with fail
   go_ret
   exact ⟨_, _, _, rfl, HO.out, HB3.out⟩
end Go.Proofs.YtckmgbobkffabaaGreat
namespace Go.Proofs.YtckmgbobkffabaaGreat
open Go.ChangeShapes Go.WideShapes Go.ChangeAt Go.RowKit
set_option linter.unusedVariables false
set_option linter.unusedSimpArgs false

/-- A pair of states by value. -/
def pairV (p : Int × Int) : Value := .agg #[.int .i64 p.1, .int .i64 p.2]
theorem pair_law : Maps.Keyed Tryz.prog 39 := Maps.Keyed.of_law (deep_law_laid laidOut (m := 3) (by omega) (by decide +kernel) (by kernel_rfl) (by kernel_rfl))
def pairL (p : Int × Int) : Lit := .string (keyBytes [.int .i64 p.1, .int .i64 p.2])
def In6 (p : Int × Int) : Prop := (0 ≤ p.1 ∧ p.1 < 6) ∧ 0 ≤ p.2 ∧ p.2 < 6
theorem wf6 {x : Int} (h : 0 ≤ x ∧ x < 6) : (Lit.int .i64 x).wf = true := by
 have h1 : -9223372036854775808 ≤ x := by omega
 have h2 : x ≤ 9223372036854775807 := by omega
 simp [Lit.wf, IntKind.min, IntKind.max, IntKind.signed, IntKind.bits]
 omega
set_option maxRecDepth 100000 in
theorem pair_read {p : Int × Int} (h : In6 p) : keyOf Tryz.prog 39 (pairV p) = some (pairL p) := by
 have hs := wf6 h.1
 have hk := wf6 h.2
 have h1 : Tryz.prog.keyType 39 = true := by kernel_rfl
 unfold keyOf pairV
 rw [Tryz.underlying39]
 simp only [h1, Bool.true_and]
 have h2 : Value.formed Tryz.prog 39 (Value.agg #[Value.int IntKind.i64 p.1, Value.int IntKind.i64 p.2]) = true := by
  unfold Value.formed
  rw [Tryz.underlying39]
  have : Tryz.prog.cellsOf 39 = 2 := by kernel_rfl
  rw [this]
  rfl
 rw [if_pos h2]
 have hC : Tryz.prog.cellsOf 39 = 2 := by kernel_rfl
 have hi : Tryz.prog.cellsOf 3 = 1 := by kernel_rfl
 obtain ⟨d, hd⟩ : ∃ d, Tryz.prog.types.size + 1 = d + 1 + 1 := ⟨Tryz.prog.types.size - 1, by
  have : 0 < Tryz.prog.types.size := by decide +kernel
  omega⟩
 rw [hd]
 have e1 : ∀ n : Int, (Lit.int .i64 n).wf = true → Tryz.prog.keyLits (d + 1) 3 [Value.int IntKind.i64 n] = some [.int .i64 n] := fun n hn => by
  unfold Program.keyLits
  rw [Tryz.underlying3]
  simp [hn]
 unfold Program.keyLits
 rw [Tryz.underlying39]
 simp [Value.cells, hC, hi, e1 _ hs, e1 _ hk, pairL]
set_option maxRecDepth 100000 in
theorem pairL_inj {p q : Int × Int} (hp : In6 p) (hq : In6 q) (h : pairL p = pairL q) : p = q := by
 have h1 := pair_read hp
 have h2 := pair_read hq
 rw [h] at h1
 have e := pair_law.inj h1 h2
 unfold pairV at e
 injection e with e
 have := congrArg Array.toList e
 simp at this
 exact Prod.ext this.1 this.2
/-- What the map holds: every pair that was met. -/
def metD : List (Int × Int) → DataW Value
 | [] => .map []
 | p :: M => (metD M).put (pairL p) (.held (.bool true))
section
open Go.Maps
theorem metD_isMap : ∀ M, IsMap (metD M)
 | [] => isMap_empty
 | p :: M => (metD_isMap M).put _ _
theorem metD_at {p : Int × Int} (hp : In6 p) (z : DataW Value) : ∀ {M : List (Int × Int)}, (∀ q ∈ M, In6 q) → (metD M).atKey (pairL p) z = if p ∈ M then .held (.bool true) else z
 | [], _ => by simp [metD, DataW.atKey]
 | q :: M, h => by
  have ih := metD_at hp z (M := M) fun r hr => h r (by simp [hr])
  by_cases e : p = q
  ·subst e
   unfold metD
   rw [atKey_put_same (metD_isMap M) (by simp [WideAt.IsKeyLit, pairL]), if_pos (by simp)]
  ·unfold metD
   rw [atKey_put_other (fun e2 => e (pairL_inj hp (h q (by simp)) e2)), ih]
   simp [e]
end
/-- Block g is a set of the pairs of M. -/
def Met (w : World) (g : Nat) (M : List (Int × Int)) : Prop := w.ownsMap Tryz.prog 39 heldR g M.length (metD M)
theorem Met.same {w w' : World} {g : Nat} {M : List (Int × Int)} (h : Met w g M) (hb : Below w.heap.size w w') : Met w' g M := by
 have hlt := World.ownsMap.lt h
 obtain ⟨es, ck, e1, F, e2, e3⟩ := h
 exact ⟨es, ck, (hb.block g hlt).trans e1, F, e2, e3⟩
theorem met_zero (w : World) : (zeroValue 4).run Tryz.prog w = .ok (.bool false) w := by kernel_rfl
set_option maxRecDepth 100000 in
theorem met_look {w : World} {g : Nat} {M : List (Int × Int)} {p : Int × Int} (h : Met w g M) (hp : In6 p) (hM : ∀ q ∈ M, In6 q) :
  (Instr.lookup 40 (.map (some g)) (.agg #[.int .i64 p.1, .int .i64 p.2]) false).run Tryz.prog w = .ok (.bool (decide (p ∈ M))) w := by
 obtain ⟨es, ck, hb, F, hs, hD⟩ := h
 rcases Maps.fit_look false pair_law Tryz.underlying40 (met_zero w) hb F (pair_read hp) with ⟨h1, _, h3⟩ | ⟨e0, y, _, _, hr, hR, hat, _⟩
 ·have hn : p ∉ M := fun hm => by
   have q := h3 (.lit (.bool false))
   rw [← hD, metD_at hp _ hM, if_pos hm] at q
   cases q
  rw [decide_eq_false hn]
  exact h1
 ·have hR2 : y = (.held e0.val, []) := by
   unfold heldR at hR
   exact (Option.some.inj hR).symm
  by_cases hm : p ∈ M
  ·have q := hat (.lit (.bool false))
   rw [← hD, metD_at hp _ hM, if_pos hm, hR2] at q
   injection q with q
   rw [decide_eq_true hm]
   rw [q]
   exact hr
  ·have q := hat (.lit (.bool false))
   rw [← hD, metD_at hp _ hM, if_neg hm, hR2] at q
   cases q
theorem met_made (w : World) : Met (w.alloc (.map #[] 0)) w.heap.size [] := World.ownsMap_made w Tryz.prog 39 heldR

/-- What a search by depth from p leaves: M were met before, M' are met behind it. -/
structure DfsTo (nx : Int → Int → List (Int × Int)) (F : Int × Int → Bool) (M : List (Int × Int)) (p : Int × Int) (r : Bool) (M' : List (Int × Int)) : Prop where
 nodup : M'.Nodup
 sub : ∀ q ∈ M, q ∈ M'
 len : M.length ≤ M'.length
 reach : ∀ q ∈ M', ReachG nx q
 yes : r = true → p ∈ M' ∧ ∀ q ∈ M', q ∉ M → F q = true ∧ ∀ z ∈ nx q.1 q.2, z ∈ M'
 no : r = false → ∃ q, ReachG nx q ∧ F q = false
/-- What it has left once the pairs of l, which follow the one that came last, were searched from. -/
structure LoopTo (nx : Int → Int → List (Int × Int)) (F : Int × Int → Bool) (M0 : List (Int × Int)) (l M' : List (Int × Int)) : Prop where
 nodup : M'.Nodup
 sub : ∀ q ∈ M0, q ∈ M'
 len : M0.length ≤ M'.length
 reach : ∀ q ∈ M', ReachG nx q
 all : ∀ z ∈ l, z ∈ M'
 new : ∀ q ∈ M', q ∉ M0 → F q = true ∧ ∀ z ∈ nx q.1 q.2, z ∈ M'
variable {nx : Int → Int → List (Int × Int)} {F : Int × Int → Bool} {M M0 M1 M2 l : List (Int × Int)} {p z : Int × Int}
theorem DfsTo.old (hn : M.Nodup) (hr : ∀ q ∈ M, ReachG nx q) (hp : p ∈ M) : DfsTo nx F M p true M :=
 ⟨hn, fun _ h => h, Nat.le_refl _, hr, fun _ => ⟨hp, fun q h1 h2 => absurd h1 h2⟩, fun h => nomatch h⟩
theorem DfsTo.bad (hn : M.Nodup) (hr : ∀ q ∈ M, ReachG nx q) (hp : p ∉ M) (hrp : ReachG nx p) (hF : F p = false) : DfsTo nx F M p false (p :: M) :=
 ⟨List.nodup_cons.2 ⟨hp, hn⟩, fun q h => by simp [h], by simp, fun q h => by
  rcases List.mem_cons.1 h with h | h
  ·rw [h]; exact hrp
  ·exact hr q h, (fun h => nomatch h), fun _ => ⟨p, hrp, hF⟩⟩
theorem LoopTo.start (hn : M.Nodup) (hr : ∀ q ∈ M, ReachG nx q) (hp : p ∉ M) (hrp : ReachG nx p) : LoopTo nx F (p :: M) [] (p :: M) :=
 ⟨List.nodup_cons.2 ⟨hp, hn⟩, fun q h => h, Nat.le_refl _, fun q h => by
  rcases List.mem_cons.1 h with h | h
  ·rw [h]; exact hrp
  ·exact hr q h, by simp, fun q h1 h2 => absurd h1 h2⟩
theorem LoopTo.step (h : LoopTo nx F M0 l M1) (k : DfsTo nx F M1 z true M2) : LoopTo nx F M0 (l ++ [z]) M2 :=
 ⟨k.nodup, fun q hq => k.sub q (h.sub q hq), Nat.le_trans h.len k.len, k.reach, fun y hy => by
  rcases List.mem_append.1 hy with e | e
  ·exact k.sub y (h.all y e)
  ·have : y = z := by simpa using e
   rw [this]
   exact (k.yes rfl).1, fun q h1 h2 => by
  by_cases hq : q ∈ M1
  ·obtain ⟨a1, a2⟩ := h.new q hq h2
   exact ⟨a1, fun y hy => k.sub y (a2 y hy)⟩
  ·exact (k.yes rfl).2 q h1 hq⟩
theorem LoopTo.fail (h : LoopTo nx F (p :: M) l M1) (k : DfsTo nx F M1 z false M2) : DfsTo nx F M p false M2 :=
 ⟨k.nodup, fun q hq => k.sub q (h.sub q (by simp [hq])), Nat.le_trans (by have := h.len; simp only [List.length_cons] at this; omega) k.len, k.reach, (fun e => nomatch e), fun _ => k.no rfl⟩
theorem LoopTo.done (h : LoopTo nx F (p :: M) (nx p.1 p.2) M1) (hF : F p = true) : DfsTo nx F M p true M1 :=
 ⟨h.nodup, fun q hq => h.sub q (by simp [hq]), by have := h.len; simp only [List.length_cons] at this; omega, h.reach, fun _ => ⟨h.sub p (by simp), fun q h1 h2 => by
  by_cases e : q = p
  ·rw [e]
   exact ⟨hF, h.all⟩
  ·exact h.new q h1 (by simp [e, h2])⟩, fun e => nomatch e⟩
/-- What the whole search says. -/
theorem DfsTo.whole {r : Bool} (h : DfsTo nx F [] (0, 0) r M) : r = true ↔ ∀ q, ReachG nx q → F q = true := by
 cases r with
 | true =>
  refine ⟨fun _ q hq => ?_, fun _ => rfl⟩
  obtain ⟨h1, h2⟩ := h.yes rfl
  have key : ∀ q, ReachG nx q → q ∈ M := fun q hq => by
   induction hq with
   | start => exact h1
   | step _ hz ih => exact (h2 _ ih (by simp)).2 _ hz
  exact (h2 q (key q hq) (by simp)).1
 | false =>
  refine ⟨(fun e => nomatch e), fun e => ?_⟩
  obtain ⟨q, h1, h2⟩ := h.no rfl
  rw [e q h1] at h2
  exact h2.symm
theorem small_in6 (hs : SmallG nx) {q : Int × Int} (h : ReachG nx q) : In6 q := hs q h
theorem met_le (hs : SmallG nx) (hn : M.Nodup) (hr : ∀ q ∈ M, ReachG nx q) : M.length ≤ 36 := by
 have h := nodup_le (m := allP) hn fun p hp => mem_allP (hs p (hr p hp)).1 (hs p (hr p hp)).2
 simpa [allP] using h
theorem met_room (hs : SmallG nx) (hn : M.Nodup) (hr : ∀ q ∈ M, ReachG nx q) (hp : p ∉ M) (hrp : ReachG nx p) : M.length < 36 := by
 have h := met_le (M := p :: M) hs (List.nodup_cons.2 ⟨hp, hn⟩) fun q h => by
  rcases List.mem_cons.1 h with h | h
  ·rw [h]; exact hrp
  ·exact hr q h
 simp only [List.length_cons] at h
 omega
end Go.Proofs.YtckmgbobkffabaaGreat
