/- What the law of hellos draws: valid hellos, any hellos, lists of tags. A list of versions as a word, by the program: one version's bit, whether it is there, the whole list. Lists of values are compared: by the program. Lists of extensions are compared: by the program. -/
import Derived.Test.YtcpnchjgklemgaaG3
import Derived.Test.YtcpnchjgklemgaaG14
import Derived.Test.YtcpnchjgklemgaaG17
import Derived.Test.YtcpnchjgklemgaaG13
import Derived.Test.YtcpnchjgklemgaaG16
import Derived.RegionTactic
import Derived.Handy
import Derived.Test.YtcpnchjgklemgaaG7
namespace Go.Proofs.Ytcpnchjgklemgaa
open Go.ChangeShapes Go.WideShapes Go.ChangeAt Go.RowKit
set_option linter.unusedVariables false
set_option linter.unusedSimpArgs false

/-- A list of versions, by its word. -/
def Lw (l : List Int) : Prop := ∃ k, k < 512 ∧ k ≠ 0 ∧ l = lw k
theorem t_one : ∀ j : Fin 9, lw (2 ^ j.val) = [(j.val : Int) + 1] ∧ 2 ^ j.val < 512 ∧ 2 ^ j.val ≠ 0 := by decide +kernel
theorem lw_one {x : Int} (h0 : 0 ≤ x) (h1 : x < 9) : Lw [1 + x] := by
  obtain ⟨q, rfl⟩ : ∃ q : Nat, x = q := ⟨x.toNat, by omega⟩
  have h := t_one ⟨q, by omega⟩
  exact ⟨2 ^ q, h.2.1, h.2.2, by rw [h.1, Int.add_comm]⟩
theorem Lw.put {l : List Int} {x : Int} (h : Lw l) (h0 : 1 ≤ x) (h1 : x ≤ 6) : Lw (putL l x) := by
  obtain ⟨k, hk, hk0, rfl⟩ := h
  obtain ⟨q, rfl⟩ : ∃ q : Nat, x = (q : Int) + 1 := ⟨(x - 1).toNat, by omega⟩
  have h := t_put ⟨k, hk⟩ ⟨q, by omega⟩
  dsimp only at h
  have hl := or_lt (w := k) hk (v := (q : Int) + 1) (by omega)
  rw [show ((q : Int) + 1).toNat - 1 = q by omega] at hl
  exact ⟨k ||| 2 ^ q, hl, or_pos, h⟩
theorem Lw.word {l : List Int} (h : Lw l) : word l ≠ 0 := by
  obtain ⟨k, hk, hk0, rfl⟩ := h
  rw [word_of hk]
  exact hk0
set_option maxHeartbeats 2000000 in
set_option maxRecDepth 100000 in
theorem l12Good_any (b : Nat) (a : Option Addr) (n c : Nat) (w : World) (hc : Curs w b a n c) :
    Calls Try.prog 104 #[.pointer (some ⟨b, 0, none⟩)] w (fun e w' => ∃ (q : Option Addr) (m d : Nat) (l : List Int), e = .returned (.slice q m d) ∧ Own .i64 3 w' w.heap.size q m d l ∧ 1 ≤ m ∧ m ≤ 5 ∧ Lw l ∧ Drawn b a n c w w') := by
  have HC := Lib.hid hc
  have hblt := hc.lt
  clear hc
  go_enter Try.func104, Try.ntmps104
  go_wp2_with fail
  refine (below_any b a n c 4 (by omega) (by omega) _ HC.out).mono ?_
  rintro e w1 ⟨x, hx0, hx1, rfl, hd1⟩
  have hs1 := hd1.2.size
  have HO2 : Hid (Own .i64 3 (w1.alloc (.cells #[.int .i64 (1 + x)] 3)) w.heap.size (some ⟨w1.heap.size, 0, none⟩) 1 1 [1 + x]) := Lib.hid (own_oneV w1 (1 + x) 3 hs1)
  have HD2 : Hid (Drawn b a n c w (w1.alloc (.cells #[.int .i64 (1 + x)] 3))) := Lib.hid (hd1.same (alloc_same _ _))
  have HS0 : Hid (Lw [1 + x]) := Lib.hid (lw_one (by omega) (by omega))
  clear hd1
  go_wp2_with fail
  refine (below_any b a n c 4 (by omega) (by omega) _ HD2.out.1).mono ?_
  rintro e w3 ⟨y, hy0, hy1, rfl, hd3⟩
  obtain ⟨r0, rfl⟩ : ∃ r : Nat, y = r := ⟨y.toNat, by omega⟩
  have HO3 := Lib.hid (HO2.out.only hd3.2 HO2.out.span (Or.inl hblt))
  have HD3 := Lib.hid (HD2.out.trans hd3)
  clear hd3 HO2 HD2
  go_wp2_with fail
  go_loopw [3, 4] (fun s i wr => ∃ (r : Nat) (q : Option Addr) (m d : Nat) (l : List Int), s = .slice q m d ∧ i = .int .i64 r ∧ 1 ≤ m ∧ m + r ≤ 5 ∧ Own .i64 3 wr w.heap.size q m d l ∧ Hid (Lw l) ∧ Drawn b a n c w wr) (fun _ i _ => (intOf i).toNat)
  case atStart => exact ⟨r0, _, 1, 1, [1 + x], rfl, rfl, by omega, by omega, HO3.out, HS0, HD3.out⟩
  case round =>
    clear HO3 HD3
    obtain ⟨r, q, m, d, l, rfl, rfl, hm1, hr, ho, HS, hd⟩ := hrel
    have HO := Lib.hid ho
    have HD := Lib.hid hd
    have hsr := hd.2.size
    clear ho hd
    by_cases h0 : 0 < r
    · have h0I : (0 : Int) < (r : Int) := by omega
      go_wp2_with fail
      refine (below_any b a n c 6 (by omega) (by omega) _ HD.out.1).mono ?_
      rintro e w4 ⟨z, hz0, hz1, rfl, hd4⟩
      have HO4 := Lib.hid (HO.out.only hd4.2 HO.out.span (Or.inl hblt))
      have HD4 := Lib.hid (HD.out.trans hd4)
      have hs4 := hd4.2.size
      obtain ⟨g, rfl, _, _⟩ := HO.out.head (by omega)
      clear hd4
      go_wp2_with fail
      refine (specPut_any g m d l (1 + z) w4 HO4.out.nums HO4.out.room (by omega)).mono ?_
      rintro e w5 ⟨q5, m5, d5, rfl, ho5, hb5⟩
      have HO5 := Lib.hid (ho5.lower (show w.heap.size ≤ w4.heap.size by omega))
      have HD5 := Lib.hid (HD4.out.same hb5)
      have hm5 : 1 ≤ m5 ∧ m5 ≤ m + 1 := by
        have e1 := ho5.len
        have e2 := HO4.out.len
        have e3 := putL_len (1 + z) l
        have e4 := putL_more (1 + z) l
        omega
      have HS5 : Hid (Lw (putL l (1 + z))) := Lib.hid (HS.out.put (by omega) (by omega))
      clear ho5 hb5
      go_wp2_with fail
      go_roundw
      case rel => exact ⟨r - 1, q5, m5, d5, _, rfl, by go_num, by omega, by omega, HO5.out, HS5, HD5.out⟩
      case measure => simp [intOf]; omega
    · obtain rfl : r = 0 := by omega
      go_wp2_with fail
      go_ret
      exact ⟨q, m, d, l, rfl, HO.out, hm1, by omega, HS.out, HD.out⟩
theorem OwnHel.only {S b B : Nat} {w w' : World} {v : Value} {x : Hel} (h : OwnHel S w B v x) (ho : Only b w w') (hb : b < B) : OwnHel S w' B v x :=
  h.aside (lo := b) (hi := b + 1) ⟨ho.os, ho.tape, ho.output, ho.size, fun k hk hd => ho.block k hk (by omega)⟩ (Or.inl hb)
theorem set_pair_inside (w : World) (g : Nat) (u v : Value) : Inside g (g + 1) w ((w.setCell ⟨g, 0, none⟩ u).setCell ⟨g, 1, none⟩ v) :=
  Inside.row (lo := g) (hi := g + 1) ((set_grown w g 0 u).trans (set_grown _ g 1 v)) (fun r e => by cases e; exact ⟨Nat.le_refl _, Nat.lt_succ_self _⟩)
/-- What a draw of a hello leaves. -/
def DrewH (b : Nat) (a : Option Addr) (n c : Nat) (P : Hel → Prop) (w : World) (e : Ending) (w' : World) : Prop :=
  ∃ (v : Value) (x : Hel), e = .returned v ∧ OwnHel w'.heap.size w' w.heap.size v x ∧ P x ∧ Drawn b a n c w w'
/-- A hello is put into the result's box. -/
theorem leaveHel {b : Nat} {a : Option Addr} {n c S : Nat} {w W : World} {p q : Option Addr} {k r m d : Nat} {x : Hel} (hc : Curs w b a n c) (hd : Drawn b a n c w W) (h : OwnHel S W (w.heap.size + 1) (.agg #[.slice p k r, .slice q m d]) x) :
    OwnHel ((W.setCell ⟨w.heap.size, 0, none⟩ (.slice p k r)).setCell ⟨w.heap.size, 1, none⟩ (.slice q m d)).heap.size ((W.setCell ⟨w.heap.size, 0, none⟩ (.slice p k r)).setCell ⟨w.heap.size, 1, none⟩ (.slice q m d)) w.heap.size (.agg #[.slice p k r, .slice q m d]) x ∧
    Drawn b a n c w ((W.setCell ⟨w.heap.size, 0, none⟩ (.slice p k r)).setCell ⟨w.heap.size, 1, none⟩ (.slice q m d)) := by
  have hb : Below w.heap.size W ((W.setCell ⟨w.heap.size, 0, none⟩ (.slice p k r)).setCell ⟨w.heap.size, 1, none⟩ (.slice q m d)) := by
    have h1 := set_pair_inside W w.heap.size (.slice p k r) (.slice q m d)
    exact h1.to (Below.refl _ _) (Nat.le_refl _) hd.2.size
  have hS : S ≤ W.heap.size := by obtain ⟨_, _, _, _, _, _, _, _, _, _, _, _, _, _, _, _, _, h9⟩ := h; exact h9
  refine ⟨((h.aside (set_pair_inside W w.heap.size (.slice p k r) (.slice q m d)) (Or.inl (Nat.le_refl _))).lower (by omega)).top (by simpa using hS) (Nat.le_refl _), hd.under hc hb (Nat.le_refl _)⟩
set_option maxHeartbeats 2000000 in
set_option maxRecDepth 100000 in
theorem l17Draw_any (b : Nat) (a : Option Addr) (n c : Nat) (w : World) (hc : Curs w b a n c) :
    Calls Try.prog 62 #[.pointer (some ⟨b, 0, none⟩)] w (DrewH b a n c (fun x => isH x = true) w) := by
  have HC := Lib.hid hc
  have hblt := hc.lt
  have HD0 : Hid (Drawn b a n c w (w.alloc (.cells #[.slice none 0 0, .slice none 0 0] 27))) := Lib.hid ((Drawn.refl hc).same (alloc_same _ _))
  have hM : (w.alloc (.cells #[.slice none 0 0, .slice none 0 0] 27)).heap[w.heap.size]? = some (.cells #[.slice none 0 0, .slice none 0 0] 27 (0, 0)) := heap_alloc_new w _
  have hsz : w.heap.size + 1 = (w.alloc (.cells #[.slice none 0 0, .slice none 0 0] 27)).heap.size := by simp
  clear hc
  unfold DrewH
  go_enter Try.func62, Try.ntmps62
  go_wp2_with fail
  generalize w.alloc (.cells #[.slice none 0 0, .slice none 0 0] 27) = W0 at *
  refine (l12Good_any b a n c W0 HD0.out.1).mono ?_
  rintro e w1 ⟨p, k, r, l, rfl, ho, hm1, hm, hs, hd⟩
  have HO1 := Lib.hid ho
  have HS1 := Lib.hid ho.span
  have HL := Lib.hid hs
  have HD1 := Lib.hid (HD0.out.trans hd)
  have hM1 := (hd.2.block w.heap.size (by omega) (by omega)).trans hM
  have hs1 := hd.2.size
  have hr1 := Lib.hid ho.room
  clear ho hs hd hM
  go_wp2_with fail
  refine (drawE_any b a n c w1 HD1.out.1).mono ?_
  rintro e w2 ⟨q, m, d, v, rfl, ho, hm5, hv, hd⟩
  have HH : Hid (OwnHel w2.heap.size w2 (w.heap.size + 1) (.agg #[.slice p k r, .slice q m d]) ⟨l, v⟩) := Lib.hid (own_hel (lo := W0.heap.size) (hi := w1.heap.size) (lo' := w1.heap.size) (hi' := w2.heap.size) (HO1.out.only hd.2 HS1.out (Or.inl (by omega))) ho.lim HS1.out (by omega) (by omega) hd.2.size (Nat.le_refl _) (Or.inl (Nat.le_refl _)) (Nat.le_refl _))
  have HI : Hid (isH ⟨l, v⟩ = true) := Lib.hid (isH_parts.2 ⟨HL.out.word, hv.are (by rw [ho.len]; omega)⟩)
  have HD2 := Lib.hid (HD1.out.trans hd)
  have hM2 := (hd.2.block w.heap.size (by omega) (by omega)).trans hM1
  obtain ⟨m0, m1, q0, q1⟩ := two_cells hM2
  obtain ⟨z0, z1, hZ⟩ := two_put hM2 (.slice p k r) (.slice q m d)
  clear ho hv hd hM1 hM2 hZ
  go_wp2_with fail
  (try simp only [Exit.inBlock, Exit.then])
  refine bodyPost_ret (by simp [results, Try.results62, go_sem, z0, z1]; try rfl) rfl ?_
  have hfin := leaveHel HC.out HD2.out HH.out
  exact ⟨_, _, rfl, hfin.1, HI.out, hfin.2⟩
theorem set_one_inside (w : World) (g o : Nat) (u : Value) : Inside g (g + 1) w (w.setCell ⟨g, o, none⟩ u) :=
  Inside.row (lo := g) (hi := g + 1) (set_grown w g o u) (fun r e => by cases e; exact ⟨Nat.le_refl _, Nat.lt_succ_self _⟩)
set_option maxHeartbeats 4000000 in
set_option maxRecDepth 100000 in
theorem l17Any_any (b : Nat) (a : Option Addr) (n c : Nat) (w : World) (hc : Curs w b a n c) :
    Calls Try.prog 68 #[.pointer (some ⟨b, 0, none⟩)] w (DrewH b a n c (fun _ => True) w) := by
  have HC := Lib.hid hc
  have hblt := hc.lt
  have HD0 : Hid (Drawn b a n c w (w.alloc (.cells #[.slice none 0 0, .slice none 0 0] 27))) := Lib.hid ((Drawn.refl hc).same (alloc_same _ _))
  have hM : (w.alloc (.cells #[.slice none 0 0, .slice none 0 0] 27)).heap[w.heap.size]? = some (.cells #[.slice none 0 0, .slice none 0 0] 27 (0, 0)) := heap_alloc_new w _
  have hsz : w.heap.size + 1 = (w.alloc (.cells #[.slice none 0 0, .slice none 0 0] 27)).heap.size := by simp
  clear hc
  unfold DrewH
  go_enter Try.func68, Try.ntmps68
  go_wp2_with fail
  generalize w.alloc (.cells #[.slice none 0 0, .slice none 0 0] 27) = W0 at *
  have KD := l17Draw_any b a n c W0 HD0.out.1
  unfold DrewH at KD
  refine KD.mono ?_
  rintro e w1 ⟨v, x, rfl, ho, -, hd⟩
  have hM1 := (hd.2.block w.heap.size (by omega) (by omega)).trans hM
  have hs1 := hd.2.size
  have hd1 := HD0.out.trans hd
  obtain ⟨p, k, r, q, m, d, lo, hi, lo', hi', rfl, o1, o2, o3, o4, o5, o6, o7⟩ := ho
  have hb2 := alloc_same w1 (.cells #[.slice p k r, .slice q m d] 27)
  have HD2 := Lib.hid (hd1.same hb2)
  have HR2 := Lib.hid ((hb2.block w.heap.size (by omega)).trans hM1)
  have HH2 : Hid ((w1.alloc (.cells #[.slice p k r, .slice q m d] 27)).heap[w1.heap.size]? = some (.cells #[.slice p k r, .slice q m d] 27 (0, 0))) := Lib.hid (heap_alloc_new w1 _)
  have HV2 := Lib.hid (o1.same hb2)
  have HE2 := Lib.hid (o2.same hb2)
  have HG := Lib.hid (And.intro o3 (And.intro o4 (And.intro o5 (And.intro o6 o7))))
  have hs2 : w1.heap.size < (w1.alloc (.cells #[.slice p k r, .slice q m d] 27)).heap.size := by simp
  clear hd hd1 hM hM1 o1 o2 o3 o4 o5 o6 o7 hb2 KD
  go_wp2_with fail
  generalize w1.alloc (.cells #[.slice p k r, .slice q m d] 27) = W2 at *
  refine (below_any b a n c 6 (by omega) (by omega) _ HD2.out.1).mono ?_
  rintro e w3 ⟨s, hs0, hs6, rfl, hd⟩
  obtain ⟨o3, o4, o5, o6, o7⟩ := HG.out
  have HD3 := Lib.hid (HD2.out.trans hd)
  have HR3 := Lib.hid ((hd.2.block w.heap.size (by omega) (by omega)).trans HR2.out)
  have HH3 := Lib.hid ((hd.2.block w1.heap.size (by omega) (by omega)).trans HH2.out)
  have HV3 := Lib.hid (HV2.out.only hd.2 o3 (Or.inl (by omega)))
  have HE3 := Lib.hid (HE2.out.only hd.2 (by omega))
  have hs3 := hd.2.size
  clear hd
  by_cases e0 : s = 0
  · subst e0
    obtain ⟨h0, h1, hf0, hf1⟩ := two_cells HH3.out
    go_wp2_with fail
    have KA := l12Any_any b a n c w3 HD3.out.1
    unfold DrewL at KA
    refine KA.mono ?_
    rintro e w4 ⟨p4, k4, r4, l4, rfl, ho4, hm4, hsm, hd⟩
    have HD4 := Lib.hid (HD3.out.trans hd)
    have HR4 := (hd.2.block w.heap.size (by omega) (by omega)).trans HR3.out
    have HH4 := (hd.2.block w1.heap.size (by omega) (by omega)).trans HH3.out
    obtain ⟨W5, hW5⟩ : ∃ W5, W5 = w4.setCell ⟨w1.heap.size, 0, none⟩ (.slice p4 k4 r4) := ⟨_, rfl⟩
    have hin : Inside w1.heap.size (w1.heap.size + 1) w4 W5 := by rw [hW5]; exact set_one_inside _ _ _ _
    have hsW : W5.heap.size = w4.heap.size := by rw [hW5]; exact World.size_setCell _ _ _
    have hs4 := hd.2.size
    have HE5 := (HE3.out.only hd.2 (by omega)).aside hin (Or.inr (by omega))
    have HV5 := ho4.aside hin ho4.span (Or.inl (by omega))
    have HF : Hid (OwnHel w4.heap.size W5 (w.heap.size + 1) (.agg #[.slice p4 k4 r4, .slice q m d]) ⟨l4, x.exts⟩) := Lib.hid (own_hel (lo := w3.heap.size) (hi := w4.heap.size) (lo' := lo') (hi' := hi') HV5 HE5 ho4.span (by omega) (by omega) (Nat.le_refl _) (by omega) (Or.inr (by omega)) (by omega))
    have HR5 := Lib.hid ((hin.block w.heap.size (by omega) (Or.inl (by omega))).trans HR4)
    have HD5 := Lib.hid (HD4.out.under HC.out (B := w.heap.size) (w := W5) (hin.to (Below.refl _ _) (by omega) (by omega)) (Nat.le_refl _))
    have hH5 : W5.heap[w1.heap.size]? = some (.cells #[.slice p4 k4 r4, .slice q m d] 27 (0, 0)) := by rw [hW5]; exact heap_setCell_same w4 w1.heap.size 0 _ _ (.slice p4 k4 r4) HH4
    obtain ⟨y0, y1, yf0, yf1⟩ := two_cells HH4
    obtain ⟨l0, l1, _, _⟩ := two_cells hH5
    obtain ⟨m0, m1, g0, g1⟩ := two_cells HR5.out
    obtain ⟨z0, z1, hZ⟩ := two_put HR5.out (.slice p4 k4 r4) (.slice q m d)
    clear hZ hd ho4 hsm HR4 HH4 hin hs4 HE5 HV5 hH5 h0 h1 hf0 hf1 KA
    rw [hW5] at l0 l1 m0 m1 g0 g1 z0 z1
    clear hsW
    go_wp2_with fail
    (try simp only [Exit.inBlock, Exit.then])
    refine bodyPost_ret (by simp [results, Try.results68, go_sem, z0, z1]; try rfl) rfl ?_
    rw [← hW5]
    have hfin := leaveHel HC.out HD5.out HF.out
    exact ⟨_, _, rfl, hfin.1, trivial, hfin.2⟩
  have b0 : (s == 0) = false := by simpa using e0
  by_cases e1 : s = 1
  · subst e1
    clear e0 b0
    go_wp2_with fail
    have KA := anyE_any b a n c w3 HD3.out.1
    unfold DrewE at KA
    refine KA.mono ?_
    rintro e w4 ⟨q4, m4, d4, v4, rfl, ho4, hm4, hv4, hd⟩
    have HD4 := Lib.hid (HD3.out.trans hd)
    have HR4 := (hd.2.block w.heap.size (by omega) (by omega)).trans HR3.out
    have HH4 := (hd.2.block w1.heap.size (by omega) (by omega)).trans HH3.out
    obtain ⟨W5, hW5⟩ : ∃ W5, W5 = w4.setCell ⟨w1.heap.size, 1, none⟩ (.slice q4 m4 d4) := ⟨_, rfl⟩
    have hin : Inside w1.heap.size (w1.heap.size + 1) w4 W5 := by rw [hW5]; exact set_one_inside _ _ _ _
    have hsW : W5.heap.size = w4.heap.size := by rw [hW5]; exact World.size_setCell _ _ _
    have hs4 := hd.2.size
    have HV5 := (HV3.out.only hd.2 o3 (Or.inl (by omega))).aside hin o3 (Or.inr (by omega))
    have HE5 := ho4.lim.aside hin (Or.inl (by omega))
    have HF : Hid (OwnHel w4.heap.size W5 (w.heap.size + 1) (.agg #[.slice p k r, .slice q4 m4 d4]) ⟨x.vers, v4⟩) := Lib.hid (own_hel (lo := lo) (hi := hi) (lo' := w3.heap.size) (hi' := w4.heap.size) HV5 HE5 o3 (by omega) (by omega) (by omega) (Nat.le_refl _) (Or.inl (by omega)) (by omega))
    have HR5 := Lib.hid ((hin.block w.heap.size (by omega) (Or.inl (by omega))).trans HR4)
    have HD5 := Lib.hid (HD4.out.under HC.out (B := w.heap.size) (w := W5) (hin.to (Below.refl _ _) (by omega) (by omega)) (Nat.le_refl _))
    have hH5 : W5.heap[w1.heap.size]? = some (.cells #[.slice p k r, .slice q4 m4 d4] 27 (0, 0)) := by rw [hW5]; exact heap_setCell_same w4 w1.heap.size 1 _ _ (.slice q4 m4 d4) HH4
    obtain ⟨y0, y1, yf0, yf1⟩ := two_cells HH4
    obtain ⟨l0, l1, _, _⟩ := two_cells hH5
    obtain ⟨m0, m1, g0, g1⟩ := two_cells HR5.out
    obtain ⟨z0, z1, hZ⟩ := two_put HR5.out (.slice p k r) (.slice q4 m4 d4)
    clear hZ hd ho4 hv4 HR4 HH4 hin hs4 HE5 HV5 hH5 KA
    rw [hW5] at l0 l1 m0 m1 g0 g1 z0 z1
    clear hsW
    go_wp2_with fail
    (try simp only [Exit.inBlock, Exit.then])
    refine bodyPost_ret (by simp [results, Try.results68, go_sem, z0, z1]; try rfl) rfl ?_
    rw [← hW5]
    have hfin := leaveHel HC.out HD5.out HF.out
    exact ⟨_, _, rfl, hfin.1, trivial, hfin.2⟩
  have b1 : (s == 1) = false := by simpa using e1
  clear e0 e1
  have HF : Hid (OwnHel w3.heap.size w3 (w.heap.size + 1) (.agg #[.slice p k r, .slice q m d]) x) := Lib.hid (own_hel (l := x.vers) (xs := x.exts) HV3.out HE3.out o3 (by omega) (by omega) (by omega) (by omega) o6 (Nat.le_refl _))
  obtain ⟨h0, h1, hf0, hf1⟩ := two_cells HH3.out
  obtain ⟨m0, m1, g0, g1⟩ := two_cells HR3.out
  obtain ⟨z0, z1, hZ⟩ := two_put HR3.out (.slice p k r) (.slice q m d)
  clear hZ
  go_wp2_with fail
  (try simp only [Exit.inBlock, Exit.then])
  refine bodyPost_ret (by simp [results, Try.results68, go_sem, z0, z1]; try rfl) rfl ?_
  have hfin := leaveHel HC.out HD3.out HF.out
  exact ⟨_, _, rfl, hfin.1, trivial, hfin.2⟩
/-- What a draw of tags leaves. -/
def DrewT (b : Nat) (a : Option Addr) (n c : Nat) (w : World) (e : Ending) (w' : World) : Prop :=
  ∃ (q : Option Addr) (m d : Nat) (l : List Int), e = .returned (.slice q m d) ∧ Own .i64 3 w' w.heap.size q m d l ∧ m ≤ 4 ∧ (∀ z ∈ l, (Lit.int .i64 z).wf = true) ∧ Drawn b a n c w w'
set_option maxHeartbeats 4000000 in
set_option maxRecDepth 100000 in
theorem l17Tags_any (b : Nat) (a : Option Addr) (n c : Nat) (w : World) (hc : Curs w b a n c) :
    Calls Try.prog 67 #[.pointer (some ⟨b, 0, none⟩)] w (DrewT b a n c w) := by
  have HC := Lib.hid hc
  have hblt := hc.lt
  have HO0 : Hid (Own .i64 3 (w.alloc (.cells #[] 3)) w.heap.size (some ⟨w.heap.size, 0, none⟩) 0 0 []) := Lib.hid (Own.empty (Nat.le_refl _))
  have HD0 : Hid (Drawn b a n c w (w.alloc (.cells #[] 3))) := Lib.hid ((Drawn.refl hc).same (alloc_same _ _))
  clear hc
  unfold DrewT
  go_enter Try.func67, Try.ntmps67
  go_wp2_with fail
  refine (below_any b a n c 5 (by omega) (by omega) _ HD0.out.1).mono ?_
  rintro e w3 ⟨y, hy0, hy1, rfl, hd3⟩
  obtain ⟨r0, rfl⟩ : ∃ r : Nat, y = r := ⟨y.toNat, by omega⟩
  have HO3 := Lib.hid (HO0.out.only hd3.2 HO0.out.span (Or.inl hblt))
  have HD3 := Lib.hid (HD0.out.trans hd3)
  clear hd3 HO0 HD0
  go_wp2_with fail
  go_loopw [3, 4] (fun s i wr => ∃ (r g m d : Nat) (l : List Int), s = .slice (some ⟨g, 0, none⟩) m d ∧ i = .int .i64 r ∧ m + r ≤ 4 ∧ Own .i64 3 wr w.heap.size (some ⟨g, 0, none⟩) m d l ∧ (∀ z ∈ l, (Lit.int .i64 z).wf = true) ∧ Drawn b a n c w wr) (fun _ i _ => (intOf i).toNat)
  case atStart => exact ⟨r0, _, 0, 0, [], rfl, rfl, by omega, HO3.out, (fun z hz => by cases hz), HD3.out⟩
  case round =>
    clear HO3 HD3
    obtain ⟨r, g, m, d, l, rfl, rfl, hr, ho, hz, hd⟩ := hrel
    have HO := Lib.hid ho
    have HD := Lib.hid hd
    have HZ := Lib.hid hz
    have hsr := hd.2.size
    clear ho hd hz
    by_cases h0 : 0 < r
    · have h0I : (0 : Int) < (r : Int) := by omega
      go_wp2_with fail
      refine (pickNew b a n c [1, 2, 3, 10, 40, 200] 6 (by omega) (by omega) rfl rfl wr HD.out.1).mono ?_
      rintro e w4 ⟨z, hz, rfl, hd4⟩
      have hzw : (Lit.int .i64 z).wf = true := by
        simp only [List.mem_cons, List.not_mem_nil, or_false] at hz
        obtain ⟨q, rfl⟩ : ∃ q : Nat, z = q := ⟨z.toNat, by omega⟩
        exact WalkArith.wf_i64 (by omega)
      have HO4 := Lib.hid (HO.out.only hd4.2 HO.out.span (Or.inl hblt))
      have HD4 := Lib.hid (HD.out.trans hd4)
      have hs4 := hd4.2.size
      have hs4' : wr.heap.size ≤ w4.heap.size := hs4
      clear hd4 hz
      go_wp2_with fail
      refine (specPut_any g m d l z w4 HO4.out.nums HO4.out.room (by omega)).mono ?_
      rintro e w5 ⟨q5, m5, d5, rfl, ho5, hb5⟩
      have hl5 : 1 ≤ m5 ∧ m5 ≤ m + 1 := by
        have e1 := ho5.len
        have e2 := HO4.out.len
        have e3 := putL_len z l
        have e4 : z ∈ putL l z := mem_putL.2 (Or.inl rfl)
        have e5 := List.length_pos_of_mem e4
        omega
      obtain ⟨g5, rfl, _, _⟩ := ho5.head (by omega)
      have HO5 := Lib.hid (ho5.lower (show w.heap.size ≤ w4.heap.size by omega))
      have HD5 := Lib.hid (HD4.out.same hb5)
      have HZ5 : Hid (∀ u ∈ putL l z, (Lit.int .i64 u).wf = true) := Lib.hid (fun u hu => by
        rcases mem_putL.1 hu with rfl | q
        · exact hzw
        · exact HZ.out u q)
      clear ho5 hb5
      go_wp2_with fail
      go_roundw
      case rel => exact ⟨r - 1, g5, m5, d5, _, rfl, by go_num, by omega, HO5.out, HZ5.out, HD5.out⟩
      case measure => simp [intOf]; omega
    · obtain rfl : r = 0 := by omega
      go_wp2_with fail
      go_ret
      exact ⟨_, m, d, l, rfl, HO.out, by omega, HZ.out, HD.out⟩
end Go.Proofs.Ytcpnchjgklemgaa
namespace Go.Proofs.Ytcpnchjgklemgaa
open Go.ChangeShapes Go.WideShapes Go.ChangeAt Go.RowKit
set_option linter.unusedVariables false
set_option linter.unusedSimpArgs false

theorem told_is {f : Nat} {args : Array Value} {v : Value} {w : World} (h : Calls Try.prog f args w fun e w' => e = .returned v ∧ w = w') : Calls Try.prog f args w (Told v w) :=
  h.mono fun _ _ ⟨h1, h2⟩ => ⟨h1, h2 ▸ Below.refl _ _⟩
theorem isVersion_any (n : Int) (w : World) : Calls Try.prog 82 #[.int .i64 n] w fun e w' => e = .returned (.bool (inBd n 1 9)) ∧ w' = w := by
  have H := inR_b n 1 9
  go_enter Try.func82, Try.ntmps82
  go_wp2_with (go_at_call 119; refine (H _).mono ?_; rintro e w' ⟨rfl, rfl⟩)
  go_ret
  exact ⟨rfl, rfl⟩
theorem bitOf_any (v : Int) (h : 1 ≤ v ∧ v ≤ 9) (w : World) : Calls Try.prog 114 #[.int .i64 v] w fun e w' => e = .returned (.int .u16 ((2 ^ (v.toNat - 1) : Nat) : Int)) ∧ w' = w := by
  have h9 : v = 1 ∨ v = 2 ∨ v = 3 ∨ v = 4 ∨ v = 5 ∨ v = 6 ∨ v = 7 ∨ v = 8 ∨ v = 9 := by omega
  clear h
  rcases h9 with rfl | rfl | rfl | rfl | rfl | rfl | rfl | rfl | rfl <;> (go_enter Try.func114, Try.ntmps114; go_wp2; go_ret; exact ⟨rfl, rfl⟩)
theorem bitOf_val {v : Int} {p : Nat} (h : 1 ≤ v ∧ v ≤ 9) (hp : 2 ^ (v.toNat - 1) = p) (w : World) : Calls Try.prog 114 #[.int .i64 v] w fun e w' => e = .returned (.int .u16 (p : Int)) ∧ w' = w := by
  rw [← hp]; exact bitOf_any v h w
set_option maxRecDepth 100000 in
set_option maxHeartbeats 1000000 in
theorem versionsOf_any {a : Option Addr} {n c : Nat} {l : List Int} {w : World} (h : Nums .i64 w a n l) :
    Calls Try.prog 74 #[.slice a n c] w fun e w' => e = .returned (.int .u16 (word l : Int)) ∧ w = w' := by
  have H := Lib.hid h
  have hl := Lib.hid h.len
  have hfit := h.fits
  clear h
  go_enter Try.func74, Try.ntmps74
  go_wp2_with fail
  go_loop [3, 5, 8] (fun s _ i => ∃ j k : Nat, j ≤ n ∧ i = .int .i64 j ∧ s = .int .u16 k ∧ k < 512 ∧ voW (l.drop j) k = word l) (fun _ _ i => n - (intOf i).toNat)
  case atStart => exact ⟨0, 0, Nat.zero_le _, rfl, rfl, by omega, rfl⟩
  case round =>
    obtain ⟨j, k, hj, rfl, rfl, hk, hw⟩ := hrel
    have HK := Lib.hid hk
    have HW := Lib.hid hw
    clear hk hw
    by_cases hlt : j < n
    · obtain ⟨ad, z, rfl, hz, hc⟩ := H.out.at_ hlt
      have HV := isVersion_any z
      have HS := Lib.hid (voW_step hz (w := k))
      clear hz
      by_cases hr : 1 ≤ z ∧ z ≤ 9
      · rw [inBd_yes hr.1 hr.2] at HV
        obtain ⟨p, hp⟩ : ∃ p : Nat, 2 ^ (z.toNat - 1) = p := ⟨_, rfl⟩
        have HB := Lib.hid (bitOf_val hr hp)
        by_cases hs : k < p
        · have HO := Lib.hid (word_or HK.out hr)
          rw [hp] at HO
          have HL := Lib.hid (or_lt HK.out hr)
          rw [hp] at HL
          have HY : Hid (voW (l.drop (j + 1)) (k ||| p) = word l) := Lib.hid (by
            rw [← HW.out, HS.out, voW_yes ⟨hr, by rw [hp]; exact hs⟩, hp])
          have hd : decide (p ≤ k) = false := decide_eq_false (by omega)
          obtain ⟨q, hq⟩ : ∃ q : Nat, q = (k ||| p) := ⟨_, rfl⟩
          rw [← hq] at HO HL HY
          have ho := HO.out
          clear hr hp hq hs
          go_wp2_with (go_at_call 82; refine (HV _).mono ?_; rintro e w' ⟨rfl, rfl⟩)
          go_wp2_with (go_at_call 114; refine (HB.out _).mono ?_; rintro e w' ⟨rfl, rfl⟩)
          go_wp2_with (go_at_call 114; refine (HB.out _).mono ?_; rintro e w' ⟨rfl, rfl⟩)
          go_round
          case rel => exact ⟨j + 1, q, by omega, by go_num, rfl, HL.out, HY.out⟩
          case measure => simp [intOf]; omega
        · have HY : Hid (word l = 0) := Lib.hid (by
            rw [← HW.out, HS.out, voW_no (by rw [hp]; exact fun q => hs q.2)])
          have hd : decide (p ≤ k) = true := decide_eq_true (by omega)
          clear hr hp hs
          go_wp2_with (go_at_call 82; refine (HV _).mono ?_; rintro e w' ⟨rfl, rfl⟩)
          go_wp2_with (go_at_call 114; refine (HB.out _).mono ?_; rintro e w' ⟨rfl, rfl⟩)
          go_ret
          exact ⟨by rw [HY.out]; rfl, rfl⟩
      · rw [inBd_no hr] at HV
        have HY : Hid (word l = 0) := Lib.hid (by
          rw [← HW.out, HS.out, voW_no (fun q => hr q.1)])
        clear hr
        go_wp2_with (go_at_call 82; refine (HV _).mono ?_; rintro e w' ⟨rfl, rfl⟩)
        go_ret
        exact ⟨by rw [HY.out]; rfl, rfl⟩
    · obtain rfl : j = n := by omega
      have HY : Hid (word l = k) := Lib.hid (by
        have := HW.out
        rw [← hl.out, drop_all] at this
        exact this.symm)
      go_wp2_with fail
      go_ret
      exact ⟨by rw [HY.out]; rfl, rfl⟩
theorem areVersions_any {a : Option Addr} {n c : Nat} {l : List Int} {w : World} (h : Nums .i64 w a n l) :
    Calls Try.prog 54 #[.slice a n c] w fun e w' => e = .returned (.bool (areV l)) ∧ w = w' := by
  have H := Lib.hid (versionsOf_any (c := c) h)
  clear h
  by_cases q : word l = 0
  · rw [areV_no q]
    rw [q] at H
    clear q
    go_enter Try.func54, Try.ntmps54
    go_wp2_with (go_at_call 74; refine H.out.mono ?_; rintro e w' ⟨rfl, rfl⟩)
    go_ret
    exact ⟨rfl, rfl⟩
  · rw [areV_yes q]
    have hq : ((word l : Int) != 0) = true := by simpa using q
    clear q
    go_enter Try.func54, Try.ntmps54
    go_wp2_with (go_at_call 74; refine H.out.mono ?_; rintro e w' ⟨rfl, rfl⟩)
    go_ret
    exact ⟨by simp, rfl⟩
end Go.Proofs.Ytcpnchjgklemgaa
namespace Go.Proofs.Ytcpnchjgklemgaa
open Go.ChangeShapes Go.WideShapes Go.ChangeAt Go.RowKit
set_option linter.unusedVariables false

theorem vl_ne {x y : Vl} (h : x ≠ y) : ¬ (x.num = y.num ∧ x.items = y.items) := fun e => h (by
  obtain ⟨a, b⟩ := x
  obtain ⟨c, d⟩ := y
  simp only at e
  rw [e.1, e.2])
end Go.Proofs.Ytcpnchjgklemgaa

namespace Go.Proofs.Ytcpnchjgklemgaa
open Go.ChangeShapes Go.WideShapes Go.ChangeAt Go.RowKit
set_option linter.unusedVariables false

set_option maxRecDepth 100000 in
theorem equalExt_yes {k : Int} {a b : Option Addr} {n m c d : Nat} {y : List Int} {w : World} (h : Nums .i64 w a n y) (h' : Nums .i64 w b m y) :
    Calls Try.prog 103 #[.agg #[.int .i64 k, .slice a n c], .agg #[.int .i64 k, .slice b m d]] w (Told (.bool true) w) := by
  have HB : Hid (Below w.heap.size w ((w.alloc (.cells #[.int .i64 k, .slice a n c] 99)).alloc (.cells #[.int .i64 k, .slice b m d] 99))) := Lib.hid (((Below.refl _ w).alloc (Nat.le_refl _) _).alloc (by simp) _)
  have K := Lib.hid (fun (w0 : World) (hb : Below w.heap.size w w0) => slicesEqual_yes (c := c) (d := d) (h.same hb) (h'.same hb))
  clear h h'
  go_enter Try.func103, Try.ntmps103
  go_wp2_with fail
  refine (K.out _ HB.out).mono ?_
  rintro e w1 ⟨rfl, hb⟩
  have HB1 := Lib.hid (HB.out.trans (hb.mono HB.out.size))
  clear hb
  go_wp2_with fail
  go_ret
  exact ⟨rfl, HB1.out⟩
set_option maxRecDepth 100000 in
theorem equalExt_no {k q : Int} {a b : Option Addr} {n m c d : Nat} {y z : List Int} {w : World} (h : Nums .i64 w a n y) (h' : Nums .i64 w b m z) (hne : ¬ (k = q ∧ y = z)) :
    Calls Try.prog 103 #[.agg #[.int .i64 k, .slice a n c], .agg #[.int .i64 q, .slice b m d]] w (Told (.bool false) w) := by
  have HB : Hid (Below w.heap.size w ((w.alloc (.cells #[.int .i64 k, .slice a n c] 99)).alloc (.cells #[.int .i64 q, .slice b m d] 99))) := Lib.hid (((Below.refl _ w).alloc (Nat.le_refl _) _).alloc (by simp) _)
  by_cases hk : k = q
  · subst hk
    have hyz : y ≠ z := fun e => hne ⟨rfl, e⟩
    have K := Lib.hid (fun (w0 : World) (hb : Below w.heap.size w w0) => slicesEqual_no (c := c) (d := d) (h.same hb) (h'.same hb) hyz)
    clear h h' hyz hne
    go_enter Try.func103, Try.ntmps103
    go_wp2_with fail
    refine (K.out _ HB.out).mono ?_
    rintro e w1 ⟨rfl, hb⟩
    have HB1 := Lib.hid (HB.out.trans (hb.mono HB.out.size))
    clear hb
    go_wp2_with fail
    go_ret
    exact ⟨rfl, HB1.out⟩
  · have bk : (k == q) = false := by simpa using hk
    clear h h' hne hk
    go_enter Try.func103, Try.ntmps103
    go_wp2_with fail
    go_ret
    exact ⟨rfl, HB.out⟩
set_option maxHeartbeats 1000000 in
set_option maxRecDepth 100000 in
theorem equalFuncX_yes {a b : Option Addr} {n m c d : Nat} {l : List Vl} {w : World} (h : Vals w a n l) (h' : Vals w b m l) :
    Calls Try.prog 102 #[.slice a n c, .slice b m d, .func (.func 103) #[] #[]] w (Told (.bool true) w) := by
  obtain rfl : n = m := by rw [← h.len, ← h'.len]
  have hn := h.fits
  have H := Lib.hid h
  have H' := Lib.hid h'
  clear h h'
  go_enter Try.func102, Try.ntmps102
  go_wp2_with fail
  go_loopw [17] (fun i wr => ∃ j : Nat, j ≤ n ∧ i = .int .i64 j ∧ Below w.heap.size w wr) (fun i _ => n - (intOf i).toNat)
  case atStart => exact ⟨0, Nat.zero_le _, rfl, Below.refl _ _⟩
  case round =>
    obtain ⟨j, hj, rfl, hb⟩ := hrel
    have HB := Lib.hid hb
    clear hb
    by_cases hlt : j < n
    · obtain ⟨b1, o1, p1, m1, d1, k1, y1, rfl, hx, hc0, hc1, hN1, hr1⟩ := (H.out.same HB.out).at_ hlt
      obtain ⟨b2, o2, p2, m2, d2, k2, y2, rfl, hy, hd0, hd1, hN2, hr2⟩ := (H'.out.same HB.out).at_ hlt
      rw [hx] at hy
      cases hy
      have HW : Hid (Below wr.heap.size wr ((wr.alloc (.cells #[.int .i64 k1, .slice p1 m1 d1] 99)).alloc (.cells #[.int .i64 k1, .slice p2 m2 d2] 99))) := Lib.hid (((Below.refl _ wr).alloc (Nat.le_refl _) _).alloc (by simp) _)
      have hq0 : (wr.alloc (.cells #[.int .i64 k1, .slice p1 m1 d1] 99)).cell? ⟨b2, o2 + j * 2, none⟩ = some (.int .i64 k1) := by rw [(alloc_same wr _).cell (cell_in hd0)]; exact hd0
      have hq1 : (wr.alloc (.cells #[.int .i64 k1, .slice p1 m1 d1] 99)).cell? ⟨b2, o2 + j * 2 + 1, none⟩ = some (.slice p2 m2 d2) := by rw [(alloc_same wr _).cell (cell_in hd1)]; exact hd1
      have K := Lib.hid (equalExt_yes (k := k1) (c := d1) (d := d2) (hN1.same HW.out) (hN2.same HW.out))
      clear hx hN1 hN2
      go_wp2_with fail
      refine K.out.mono ?_
      rintro e w3 ⟨rfl, hb3⟩
      have HB3 := Lib.hid ((HB.out.trans (HW.out.mono HB.out.size)).trans (hb3.mono (Nat.le_trans HB.out.size HW.out.size)))
      clear hb3 hc0 hc1 hd0 hd1 hq0 hq1
      go_wp2_with fail
      go_roundw
      case rel => exact ⟨j + 1, by omega, by go_num, HB3.out⟩
      case measure => simp [intOf]; omega
    · go_wp2_with fail
      go_ret
      exact ⟨rfl, HB.out⟩
set_option maxHeartbeats 1000000 in
set_option maxRecDepth 100000 in
theorem equalFuncX_no {a b : Option Addr} {n m c d : Nat} {l l' : List Vl} {w : World} (h : Vals w a n l) (h' : Vals w b m l') (hne : l ≠ l') :
    Calls Try.prog 102 #[.slice a n c, .slice b m d, .func (.func 103) #[] #[]] w (Told (.bool false) w) := by
  have hn := h.fits
  have hm := h'.fits
  have H := Lib.hid h
  have H' := Lib.hid h'
  have HE := Lib.hid hne
  clear h h' hne
  by_cases hnm : n = m
  · subst hnm
    go_enter Try.func102, Try.ntmps102
    go_wp2_with fail
    go_loopw [17] (fun i wr => ∃ j : Nat, j ≤ n ∧ i = .int .i64 j ∧ l.take j = l'.take j ∧ Below w.heap.size w wr) (fun i _ => n - (intOf i).toNat)
    case atStart => exact ⟨0, Nat.zero_le _, rfl, rfl, Below.refl _ _⟩
    case round =>
      obtain ⟨j, hj, rfl, ht, hb⟩ := hrel
      have HB := Lib.hid hb
      have HT := Lib.hid ht
      clear hb ht
      by_cases hlt : j < n
      · obtain ⟨b1, o1, p1, m1, d1, k1, y1, rfl, hx, hc0, hc1, hN1, hr1⟩ := (H.out.same HB.out).at_ hlt
        obtain ⟨b2, o2, p2, m2, d2, k2, y2, rfl, hy, hd0, hd1, hN2, hr2⟩ := (H'.out.same HB.out).at_ hlt
        have HW : Hid (Below wr.heap.size wr ((wr.alloc (.cells #[.int .i64 k1, .slice p1 m1 d1] 99)).alloc (.cells #[.int .i64 k2, .slice p2 m2 d2] 99))) := Lib.hid (((Below.refl _ wr).alloc (Nat.le_refl _) _).alloc (by simp) _)
        have hq0 : (wr.alloc (.cells #[.int .i64 k1, .slice p1 m1 d1] 99)).cell? ⟨b2, o2 + j * 2, none⟩ = some (.int .i64 k2) := by rw [(alloc_same wr _).cell (cell_in hd0)]; exact hd0
        have hq1 : (wr.alloc (.cells #[.int .i64 k1, .slice p1 m1 d1] 99)).cell? ⟨b2, o2 + j * 2 + 1, none⟩ = some (.slice p2 m2 d2) := by rw [(alloc_same wr _).cell (cell_in hd1)]; exact hd1
        by_cases hxy : k1 = k2 ∧ y1 = y2
        · obtain ⟨rfl, rfl⟩ := hxy
          have HX := Lib.hid hx
          have HY := Lib.hid hy
          have K := Lib.hid (equalExt_yes (k := k1) (c := d1) (d := d2) (hN1.same HW.out) (hN2.same HW.out))
          clear hx hy hN1 hN2
          go_wp2_with fail
          refine K.out.mono ?_
          rintro e w3 ⟨rfl, hb3⟩
          have HB3 := Lib.hid ((HB.out.trans (HW.out.mono HB.out.size)).trans (hb3.mono (Nat.le_trans HB.out.size HW.out.size)))
          clear hb3 hc0 hc1 hd0 hd1 hq0 hq1
          go_wp2_with fail
          go_roundw
          case rel => exact ⟨j + 1, by omega, by go_num, by rw [List.take_add_one, List.take_add_one, HX.out, HY.out, HT.out], HB3.out⟩
          case measure => simp [intOf]; omega
        · have K := Lib.hid (equalExt_no (c := d1) (d := d2) (hN1.same HW.out) (hN2.same HW.out) hxy)
          clear hx hy hN1 hN2 hxy
          go_wp2_with fail
          refine K.out.mono ?_
          rintro e w3 ⟨rfl, hb3⟩
          have HB3 := Lib.hid ((HB.out.trans (HW.out.mono HB.out.size)).trans (hb3.mono (Nat.le_trans HB.out.size HW.out.size)))
          clear hb3 hc0 hc1 hd0 hd1 hq0 hq1
          go_wp2_with fail
          go_ret
          exact ⟨rfl, HB3.out⟩
      · exfalso
        have h1 := HT.out
        rw [List.take_of_length_le (by rw [H.out.len]; omega), List.take_of_length_le (by rw [H'.out.len]; omega)] at h1
        exact HE.out h1
  · have hq : ((n : Int) != (m : Int)) = true := by simp; omega
    clear hnm
    go_enter Try.func102, Try.ntmps102
    go_wp2_with fail
    go_ret
    exact ⟨rfl, Below.refl _ _⟩
set_option maxRecDepth 100000 in
theorem equalExts_yes {a b : Option Addr} {n m c d : Nat} {l : List Vl} {w : World} (h : Vals w a n l) (h' : Vals w b m l) :
    Calls Try.prog 60 #[.slice a n c, .slice b m d] w (Told (.bool true) w) := by
  have K := Lib.hid (equalFuncX_yes (c := c) (d := d) h h')
  clear h h'
  go_enter Try.func60, Try.ntmps60
  go_wp2_with fail
  refine K.out.mono ?_
  rintro e w1 ⟨rfl, hb1⟩
  have HB1 := Lib.hid hb1
  clear hb1
  go_wp2
  go_ret
  exact ⟨rfl, HB1.out⟩
set_option maxRecDepth 100000 in
theorem equalExts_no {a b : Option Addr} {n m c d : Nat} {l l' : List Vl} {w : World} (h : Vals w a n l) (h' : Vals w b m l') (hne : l ≠ l') :
    Calls Try.prog 60 #[.slice a n c, .slice b m d] w (Told (.bool false) w) := by
  have K := Lib.hid (equalFuncX_no (c := c) (d := d) h h' hne)
  clear h h' hne
  go_enter Try.func60, Try.ntmps60
  go_wp2_with fail
  refine K.out.mono ?_
  rintro e w1 ⟨rfl, hb1⟩
  have HB1 := Lib.hid hb1
  clear hb1
  go_wp2
  go_ret
  exact ⟨rfl, HB1.out⟩
end Go.Proofs.Ytcpnchjgklemgaa
