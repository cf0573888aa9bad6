/- Two machines are drawn, either of which need not be valid; what the law of pairs draws. -/
import Derived.Test.YtckmgbobkffabaaPr
namespace Go.Proofs.Ytckmgbobkffabaa
open Go.ChangeShapes Go.WideShapes Go.ChangeAt Go.RowKit
set_option linter.unusedVariables false
set_option linter.unusedSimpArgs false

/-- Two machines, each in a box too, and the cursor. -/
structure St2 (b : Nat) (a : Option Addr) (n c : Nat) (WA : World) (S GA GB : Nat) (ca cb : Array Value) (xa xb : Mac) (wr : World) : Prop where
  ownA : OwnMac S wr WA.heap.size (.agg ca) xa
  ownB : OwnMac S wr WA.heap.size (.agg cb) xb
  ga : wr.heap[GA]? = some (.cells ca 27 (0, 0))
  gb : wr.heap[GB]? = some (.cells cb 27 (0, 0))
  dr : Drawn b a n c WA wr
  c1 : b < WA.heap.size
  c2 : WA.heap.size ≤ GA
  c3 : WA.heap.size ≤ GB
section
variable {b : Nat} {a : Option Addr} {n c : Nat} {WA : World} {S GA GB : Nat} {ca cb : Array Value} {xa xb : Mac} {wr w' : World}
theorem St2.only (h : St2 b a n c WA S GA GB ca cb xa xb wr) (hd : Drawn b a n c wr w') : St2 b a n c WA S GA GB ca cb xa xb w' := by
  have h1 := h.c1
  have h2 := h.c2
  have h3 := h.c3
  exact ⟨h.ownA.onlyC hd.2 h1, h.ownB.onlyC hd.2 h1, (hd.2.block GA (Array.getElem?_eq_some_iff.1 h.ga).1 (by omega)).trans h.ga, (hd.2.block GB (Array.getElem?_eq_some_iff.1 h.gb).1 (by omega)).trans h.gb, h.dr.trans hd, h1, h2, h3⟩
theorem St2.same (h : St2 b a n c WA S GA GB ca cb xa xb wr) (hb : Below wr.heap.size wr w') : St2 b a n c WA S GA GB ca cb xa xb w' :=
  ⟨h.ownA.same hb, h.ownB.same hb, (hb.block GA (Array.getElem?_eq_some_iff.1 h.ga).1).trans h.ga, (hb.block GB (Array.getElem?_eq_some_iff.1 h.gb).1).trans h.gb, h.dr.same hb, h.c1, h.c2, h.c3⟩
end
theorem leave2 {b : Nat} {a : Option Addr} {n c : Nat} {w WA wr w' : World} {S1 S2 B1 B2 : Nat} {v v' : Value} {x x' : Mac} (h1 : OwnMac S1 wr B1 v x) (h2 : OwnMac S2 wr B2 v' x') (hB1 : WA.heap.size ≤ B1) (hB2 : WA.heap.size ≤ B2) (dr : Drawn b a n c WA wr) (hc : Curs w b a n c) (hal : Below w.heap.size w WA)
    (hA : w.heap.size + 2 ≤ WA.heap.size) (hi : Inside w.heap.size (w.heap.size + 2) wr w') (hx : OkP x) (hx' : OkP x') : DrewPair b a n c w (.returned (.tuple #[v, v'])) w' := by
  have hsz := hi.size
  have hw := dr.2.size
  have e1 : S1 ≤ wr.heap.size := by
    obtain ⟨_, _, _, _, _, _, _, _, _, _, _, _, h6, _⟩ := h1
    exact h6
  have e2 : S2 ≤ wr.heap.size := by
    obtain ⟨_, _, _, _, _, _, _, _, _, _, _, _, h6, _⟩ := h2
    exact h6
  have hb9 : Below w.heap.size wr w' := ⟨hi.os, hi.tape, hi.output, hi.size, fun k hk => hi.block k (by omega) (Or.inl hk)⟩
  exact ⟨_, x, _, x', rfl, ((h1.aside hi (Or.inl (by omega))).lower (by omega)).upper (by omega) (Nat.le_refl _), hx, ((h2.aside hi (Or.inl (by omega))).lower (by omega)).upper (by omega) (Nat.le_refl _), hx', (((Drawn.refl hc).same hal).trans dr).under hc hb9 (Nat.le_refl _)⟩
def DrewTwo (w : World) (e : Ending) (w' : World) : Prop :=
  ∃ v x v' x', e = .returned (.tuple #[v, v']) ∧ OwnMac w'.heap.size w' w.heap.size v x ∧ OkP x ∧ OwnMac w'.heap.size w' w.heap.size v' x' ∧ OkP x' ∧ Below w.heap.size w w'
set_option maxHeartbeats 8000000 in
set_option maxRecDepth 100000 in
theorem l14Any_any (b : Nat) (a : Option Addr) (n c : Nat) (w : World) (hc : Curs w b a n c) :
    Calls Try.prog 85 #[.pointer (some ⟨b, 0, none⟩)] w (DrewPair b a n c w) := by
  have hblt := hc.lt
  obtain ⟨hAL, hR0, hR1, hS⟩ := twice w #[.int .i64 0, .slice none 0 0, .slice none 0 0] #[.int .i64 0, .slice none 0 0, .slice none 0 0] 27 27
  have HAL := Lib.hid hAL
  have HR0 := Lib.hid hR0
  have HR1 := Lib.hid hR1
  have HC := Lib.hid (hc.same hAL)
  have HCW := Lib.hid hc
  have hsA : w.heap.size + 2 ≤ ((w.alloc (.cells #[.int .i64 0, .slice none 0 0, .slice none 0 0] 27)).alloc (.cells #[.int .i64 0, .slice none 0 0, .slice none 0 0] 27)).heap.size := by omega
  clear hc hAL hR0 hR1 hS
  go_enter Try.func85, Try.ntmps85
  go_wp2_with fail
  generalize (w.alloc (.cells #[.int .i64 0, .slice none 0 0, .slice none 0 0] 27)).alloc (.cells #[.int .i64 0, .slice none 0 0, .slice none 0 0] 27) = WA at *
  refine (l14Pair_any b a n c _ HC.out).mono ?_
  rintro e w1 ⟨va, xa, vb, xb, rfl, hoa, hka, hob, hkb, hd1⟩
  obtain ⟨pa, ka, ra, qa, ma, da, rfl⟩ := hoa.shape
  obtain ⟨pb, kb, rb, qb, mb, db, rfl⟩ := hob.shape
  have HKA := Lib.hid hka
  have HKB := Lib.hid hkb
  have hs1 := hd1.2.size
  obtain ⟨hBB, hX, hY, hS2⟩ := twice w1 #[.int .i64 xa.st, .slice pa ka ra, .slice qa ma da] #[.int .i64 xb.st, .slice pb kb rb, .slice qb mb db] 27 27
  have HS0 : Hid (St2 b a n c WA w1.heap.size w1.heap.size (w1.heap.size + 1) #[.int .i64 xa.st, .slice pa ka ra, .slice qa ma da] #[.int .i64 xb.st, .slice pb kb rb, .slice qb mb db] xa xb ((w1.alloc (.cells #[.int .i64 xa.st, .slice pa ka ra, .slice qa ma da] 27)).alloc (.cells #[.int .i64 xb.st, .slice pb kb rb, .slice qb mb db] 27))) := Lib.hid ⟨hoa.same hBB, hob.same hBB, hX, hY, hd1.same hBB, by omega, hs1, by omega⟩
  have HIX : Hid (w1.heap.size + 2 = ((w1.alloc (.cells #[.int .i64 xa.st, .slice pa ka ra, .slice qa ma da] 27)).alloc (.cells #[.int .i64 xb.st, .slice pb kb rb, .slice qb mb db] 27)).heap.size) := Lib.hid hS2.symm
  clear hoa hob hka hkb hd1 hBB hX hY hS2
  go_wp2_with fail
  generalize (w1.alloc (.cells #[.int .i64 xa.st, .slice pa ka ra, .slice qa ma da] 27)).alloc (.cells #[.int .i64 xb.st, .slice pb kb rb, .slice qb mb db] 27) = W2 at *
  obtain ⟨S, hSe⟩ : ∃ u, u = w1.heap.size := ⟨_, rfl⟩
  obtain ⟨GB, hGBe⟩ : ∃ u, u = w1.heap.size + 1 := ⟨_, rfl⟩
  rw [← hGBe, ← hSe] at HS0
  rw [← hGBe, ← hSe]
  clear hSe hGBe HIX hs1
  refine (below_any b a n c 6 (by omega) (by omega) _ HS0.out.dr.1).mono ?_
  rintro e W4 ⟨y, hy0, hy1, rfl, hd4⟩
  have HS := Lib.hid (HS0.out.only hd4)
  clear hd4 HS0
  have hsw := HS.out.dr.2.size
  have hbx1 := HS.out.c1
  have hbx2 := HS.out.c2
  have hbx3 := HS.out.c3
  have Z0 : Hid (W4.heap[w.heap.size]? = _) := Lib.hid ((HS.out.dr.2.block w.heap.size (by omega) (by omega)).trans HR0.out)
  have Z1 : Hid (W4.heap[w.heap.size + 1]? = _) := Lib.hid ((HS.out.dr.2.block (w.heap.size + 1) (by omega) (by omega)).trans HR1.out)
  have EA := Lib.hid (three_cells HS.out.ga)
  have EB := Lib.hid (three_cells HS.out.gb)
  by_cases n0 : y = 0
  · subst n0
    have DS : Hid (St2 b a n c WA S S GB #[.int .i64 xa.st, .slice pa ka ra, .slice qa ma da] #[.int .i64 xb.st, .slice pb kb rb, .slice qb mb db] xa xb W4.drew) := Lib.hid (HS.out.same (Below.refl _ W4).drew)
    go_wp2_with fail
    refine wp_region_held_drew (S := fun w9 => w9.cell? ⟨S, 0, none⟩ = some (.int .i64 xa.st) ∧ w9.cell? ⟨S, 1, none⟩ = some (.slice pa ka ra) ∧ w9.cell? ⟨S, 2, none⟩ = some (.slice qa ma da) ∧ w9.cell? ⟨GB, 0, none⟩ = some (.int .i64 xb.st) ∧ w9.cell? ⟨GB, 1, none⟩ = some (.slice pb kb rb) ∧ w9.cell? ⟨GB, 2, none⟩ = some (.slice qb mb db)) (by kernel_rfl) ⟨EA.out.1, EA.out.2.1, EA.out.2.2.1, EB.out.1, EB.out.2.1, EB.out.2.2.1⟩ (fun hHeld => ?_)
    refine wpAnyH_take (i := 0) (v := ?v3) (by simp only [List.getElem?_toArray, List.getElem?_cons_succ, List.getElem?_cons_zero]; rfl) (by kernel_rfl) (by kernel_rfl) (by kernel_rfl) (by exact fun _ _ _ h => h) (Or.inl ⟨by rfl, fun w9 hS9 => ?hy3⟩) hHeld ?rest3
    case hy3 =>
      dsimp only at hS9
      obtain ⟨u0, u1, u2, u3, u4, u5⟩ := hS9
      go_simp
      try with_reducible rfl
    try simp only [Act.put, List.setIfInBounds_toArray, List.set_cons_zero, List.set_cons_succ]
    refine wpAnyH_take (i := 1) (v := ?v4) (by simp only [List.getElem?_toArray, List.getElem?_cons_succ, List.getElem?_cons_zero]; rfl) (by kernel_rfl) (by kernel_rfl) (by kernel_rfl) (by exact fun _ _ _ h => h) (Or.inl ⟨by rfl, fun w9 hS9 => ?hy4⟩) hHeld ?rest4
    case hy4 =>
      dsimp only at hS9
      obtain ⟨u0, u1, u2, u3, u4, u5⟩ := hS9
      go_simp
      try with_reducible rfl
    try simp only [Act.put, List.setIfInBounds_toArray, List.set_cons_zero, List.set_cons_succ]
    refine wpAnyH_ready (rs := [2]) (by kernel_rfl) (by simp) (AllReadyH.cons (by simp only [List.getElem?_toArray, List.getElem?_cons_succ, List.getElem?_cons_zero]; rfl) (fun K hK => ?_) AllReadyH.nil)
    go_simp
    refine (l13Any_any b a n c _ DS.out.dr.1).mono ?_
    rintro e v5 ⟨vc, xc, rfl, hoc, hkc, hd5⟩
    obtain ⟨pc, kc, rc, qc, mc, dc, rfl⟩ := hoc.shape
    have S5 := Lib.hid (DS.out.only hd5)
    have HOC := Lib.hid hoc
    have HKC := Lib.hid hkc
    have h45 : W4.heap.size ≤ v5.heap.size := hd5.2.size
    have h45b : W4.heap.size ≤ W4.drew.heap.size := Nat.le_refl _
    have Z05 : Hid (v5.heap[w.heap.size]? = _) := Lib.hid ((hd5.2.block w.heap.size (by omega) (by omega)).trans Z0.out)
    have Z15 : Hid (v5.heap[w.heap.size + 1]? = _) := Lib.hid ((hd5.2.block (w.heap.size + 1) (by omega) (by omega)).trans Z1.out)
    have EA5 := Lib.hid (three_cells S5.out.ga)
    have EB5 := Lib.hid (three_cells S5.out.gb)
    have FK5 : Hid ((v5).cell? ⟨S, 0, none⟩ = some (.int .i64 xa.st) ∧ (v5).cell? ⟨S, 1, none⟩ = some (.slice pa ka ra) ∧ (v5).cell? ⟨S, 2, none⟩ = some (.slice qa ma da) ∧ (v5).cell? ⟨GB, 0, none⟩ = some (.int .i64 xb.st) ∧ (v5).cell? ⟨GB, 1, none⟩ = some (.slice pb kb rb) ∧ (v5).cell? ⟨GB, 2, none⟩ = some (.slice qb mb db)) := Lib.hid ⟨EA5.out.1, EA5.out.2.1, EA5.out.2.2.1, EB5.out.1, EB5.out.2.1, EB5.out.2.2.1⟩
    clear hoc hkc hd5
    go_wp2_with fail
    refine hK.out _ _ FK5.out (fun hHeld => ?_)
    clear hK K
    try simp only [Act.put, List.setIfInBounds_toArray, List.set_cons_zero, List.set_cons_succ]
    refine wpAnyH_ready (rs := [3]) (by kernel_rfl) (by simp) (AllReadyH.cons (by simp only [List.getElem?_toArray, List.getElem?_cons_succ, List.getElem?_cons_zero]; rfl) (fun K hK => ?_) AllReadyH.nil)
    have HGW0 : Hid (v5.grownBy (((v5.setCell ⟨w.heap.size, 0, none⟩ (.int .i64 xa.st)).setCell ⟨w.heap.size, 1, none⟩ (.slice pa ka ra)).setCell ⟨w.heap.size, 2, none⟩ (.slice qa ma da)) (some (w.heap.size))) := Lib.hid (((put_grown _ _ _ _).trans (put_grown _ _ _ _)).trans (put_grown _ _ _ _))
    have Z1B : Hid ((((v5.setCell ⟨w.heap.size, 0, none⟩ (.int .i64 xa.st)).setCell ⟨w.heap.size, 1, none⟩ (.slice pa ka ra)).setCell ⟨w.heap.size, 2, none⟩ (.slice qa ma da)).heap[w.heap.size + 1]? = _) := Lib.hid ((HGW0.out.block (w.heap.size + 1) (by omega) (by simp)).trans Z15.out)
    have FK0 : Hid (((((v5.setCell ⟨w.heap.size, 0, none⟩ (.int .i64 xa.st)).setCell ⟨w.heap.size, 1, none⟩ (.slice pa ka ra)).setCell ⟨w.heap.size, 2, none⟩ (.slice qa ma da))).cell? ⟨S, 0, none⟩ = some (.int .i64 xa.st) ∧ ((((v5.setCell ⟨w.heap.size, 0, none⟩ (.int .i64 xa.st)).setCell ⟨w.heap.size, 1, none⟩ (.slice pa ka ra)).setCell ⟨w.heap.size, 2, none⟩ (.slice qa ma da))).cell? ⟨S, 1, none⟩ = some (.slice pa ka ra) ∧ ((((v5.setCell ⟨w.heap.size, 0, none⟩ (.int .i64 xa.st)).setCell ⟨w.heap.size, 1, none⟩ (.slice pa ka ra)).setCell ⟨w.heap.size, 2, none⟩ (.slice qa ma da))).cell? ⟨S, 2, none⟩ = some (.slice qa ma da) ∧ ((((v5.setCell ⟨w.heap.size, 0, none⟩ (.int .i64 xa.st)).setCell ⟨w.heap.size, 1, none⟩ (.slice pa ka ra)).setCell ⟨w.heap.size, 2, none⟩ (.slice qa ma da))).cell? ⟨GB, 0, none⟩ = some (.int .i64 xb.st) ∧ ((((v5.setCell ⟨w.heap.size, 0, none⟩ (.int .i64 xa.st)).setCell ⟨w.heap.size, 1, none⟩ (.slice pa ka ra)).setCell ⟨w.heap.size, 2, none⟩ (.slice qa ma da))).cell? ⟨GB, 1, none⟩ = some (.slice pb kb rb) ∧ ((((v5.setCell ⟨w.heap.size, 0, none⟩ (.int .i64 xa.st)).setCell ⟨w.heap.size, 1, none⟩ (.slice pa ka ra)).setCell ⟨w.heap.size, 2, none⟩ (.slice qa ma da))).cell? ⟨GB, 2, none⟩ = some (.slice qb mb db)) := Lib.hid ⟨cell_apart FK5.out.1 HGW0.out (by simp; omega), cell_apart FK5.out.2.1 HGW0.out (by simp; omega), cell_apart FK5.out.2.2.1 HGW0.out (by simp; omega), cell_apart FK5.out.2.2.2.1 HGW0.out (by simp; omega), cell_apart FK5.out.2.2.2.2.1 HGW0.out (by simp; omega), cell_apart FK5.out.2.2.2.2.2 HGW0.out (by simp; omega)⟩
    have FD0 : Hid ((World.drew (((v5.setCell ⟨w.heap.size, 0, none⟩ (.int .i64 xa.st)).setCell ⟨w.heap.size, 1, none⟩ (.slice pa ka ra)).setCell ⟨w.heap.size, 2, none⟩ (.slice qa ma da))).cell? ⟨S, 0, none⟩ = some (.int .i64 xa.st) ∧ (World.drew (((v5.setCell ⟨w.heap.size, 0, none⟩ (.int .i64 xa.st)).setCell ⟨w.heap.size, 1, none⟩ (.slice pa ka ra)).setCell ⟨w.heap.size, 2, none⟩ (.slice qa ma da))).cell? ⟨S, 1, none⟩ = some (.slice pa ka ra) ∧ (World.drew (((v5.setCell ⟨w.heap.size, 0, none⟩ (.int .i64 xa.st)).setCell ⟨w.heap.size, 1, none⟩ (.slice pa ka ra)).setCell ⟨w.heap.size, 2, none⟩ (.slice qa ma da))).cell? ⟨S, 2, none⟩ = some (.slice qa ma da) ∧ (World.drew (((v5.setCell ⟨w.heap.size, 0, none⟩ (.int .i64 xa.st)).setCell ⟨w.heap.size, 1, none⟩ (.slice pa ka ra)).setCell ⟨w.heap.size, 2, none⟩ (.slice qa ma da))).cell? ⟨GB, 0, none⟩ = some (.int .i64 xb.st) ∧ (World.drew (((v5.setCell ⟨w.heap.size, 0, none⟩ (.int .i64 xa.st)).setCell ⟨w.heap.size, 1, none⟩ (.slice pa ka ra)).setCell ⟨w.heap.size, 2, none⟩ (.slice qa ma da))).cell? ⟨GB, 1, none⟩ = some (.slice pb kb rb) ∧ (World.drew (((v5.setCell ⟨w.heap.size, 0, none⟩ (.int .i64 xa.st)).setCell ⟨w.heap.size, 1, none⟩ (.slice pa ka ra)).setCell ⟨w.heap.size, 2, none⟩ (.slice qa ma da))).cell? ⟨GB, 2, none⟩ = some (.slice qb mb db)) := Lib.hid (by simp only [cell_drew9]; exact FK0.out)
    obtain ⟨f0, f1, f2, g0, g1, g2⟩ := three_cells Z05.out
    have HP0 := Lib.hid (three_put Z05.out (.int .i64 xa.st) (.slice pa ka ra) (.slice qa ma da))
    go_simp
    clear f0 f1 f2 g0 g1 g2
    refine hK.out _ _ FK0.out (fun hHeld => ?_)
    clear hK K
    try simp only [Act.put, List.setIfInBounds_toArray, List.set_cons_zero, List.set_cons_succ]
    refine wpAnyH_ready (rs := [4]) (by kernel_rfl) (by simp) (AllReadyH.cons (by simp only [List.getElem?_toArray, List.getElem?_cons_succ, List.getElem?_cons_zero]; rfl) (fun K hK => ?_) AllReadyH.nil)
    have HGW1 : Hid ((((v5.setCell ⟨w.heap.size, 0, none⟩ (.int .i64 xa.st)).setCell ⟨w.heap.size, 1, none⟩ (.slice pa ka ra)).setCell ⟨w.heap.size, 2, none⟩ (.slice qa ma da)).grownBy ((((((v5.setCell ⟨w.heap.size, 0, none⟩ (.int .i64 xa.st)).setCell ⟨w.heap.size, 1, none⟩ (.slice pa ka ra)).setCell ⟨w.heap.size, 2, none⟩ (.slice qa ma da)).setCell ⟨w.heap.size + 1, 0, none⟩ (.int .i64 xc.st)).setCell ⟨w.heap.size + 1, 1, none⟩ (.slice pc kc rc)).setCell ⟨w.heap.size + 1, 2, none⟩ (.slice qc mc dc)) (some (w.heap.size + 1))) := Lib.hid (((put_grown _ _ _ _).trans (put_grown _ _ _ _)).trans (put_grown _ _ _ _))
    have FK1 : Hid ((((((((v5.setCell ⟨w.heap.size, 0, none⟩ (.int .i64 xa.st)).setCell ⟨w.heap.size, 1, none⟩ (.slice pa ka ra)).setCell ⟨w.heap.size, 2, none⟩ (.slice qa ma da)).setCell ⟨w.heap.size + 1, 0, none⟩ (.int .i64 xc.st)).setCell ⟨w.heap.size + 1, 1, none⟩ (.slice pc kc rc)).setCell ⟨w.heap.size + 1, 2, none⟩ (.slice qc mc dc))).cell? ⟨S, 0, none⟩ = some (.int .i64 xa.st) ∧ (((((((v5.setCell ⟨w.heap.size, 0, none⟩ (.int .i64 xa.st)).setCell ⟨w.heap.size, 1, none⟩ (.slice pa ka ra)).setCell ⟨w.heap.size, 2, none⟩ (.slice qa ma da)).setCell ⟨w.heap.size + 1, 0, none⟩ (.int .i64 xc.st)).setCell ⟨w.heap.size + 1, 1, none⟩ (.slice pc kc rc)).setCell ⟨w.heap.size + 1, 2, none⟩ (.slice qc mc dc))).cell? ⟨S, 1, none⟩ = some (.slice pa ka ra) ∧ (((((((v5.setCell ⟨w.heap.size, 0, none⟩ (.int .i64 xa.st)).setCell ⟨w.heap.size, 1, none⟩ (.slice pa ka ra)).setCell ⟨w.heap.size, 2, none⟩ (.slice qa ma da)).setCell ⟨w.heap.size + 1, 0, none⟩ (.int .i64 xc.st)).setCell ⟨w.heap.size + 1, 1, none⟩ (.slice pc kc rc)).setCell ⟨w.heap.size + 1, 2, none⟩ (.slice qc mc dc))).cell? ⟨S, 2, none⟩ = some (.slice qa ma da) ∧ (((((((v5.setCell ⟨w.heap.size, 0, none⟩ (.int .i64 xa.st)).setCell ⟨w.heap.size, 1, none⟩ (.slice pa ka ra)).setCell ⟨w.heap.size, 2, none⟩ (.slice qa ma da)).setCell ⟨w.heap.size + 1, 0, none⟩ (.int .i64 xc.st)).setCell ⟨w.heap.size + 1, 1, none⟩ (.slice pc kc rc)).setCell ⟨w.heap.size + 1, 2, none⟩ (.slice qc mc dc))).cell? ⟨GB, 0, none⟩ = some (.int .i64 xb.st) ∧ (((((((v5.setCell ⟨w.heap.size, 0, none⟩ (.int .i64 xa.st)).setCell ⟨w.heap.size, 1, none⟩ (.slice pa ka ra)).setCell ⟨w.heap.size, 2, none⟩ (.slice qa ma da)).setCell ⟨w.heap.size + 1, 0, none⟩ (.int .i64 xc.st)).setCell ⟨w.heap.size + 1, 1, none⟩ (.slice pc kc rc)).setCell ⟨w.heap.size + 1, 2, none⟩ (.slice qc mc dc))).cell? ⟨GB, 1, none⟩ = some (.slice pb kb rb) ∧ (((((((v5.setCell ⟨w.heap.size, 0, none⟩ (.int .i64 xa.st)).setCell ⟨w.heap.size, 1, none⟩ (.slice pa ka ra)).setCell ⟨w.heap.size, 2, none⟩ (.slice qa ma da)).setCell ⟨w.heap.size + 1, 0, none⟩ (.int .i64 xc.st)).setCell ⟨w.heap.size + 1, 1, none⟩ (.slice pc kc rc)).setCell ⟨w.heap.size + 1, 2, none⟩ (.slice qc mc dc))).cell? ⟨GB, 2, none⟩ = some (.slice qb mb db)) := Lib.hid ⟨cell_apart FK0.out.1 HGW1.out (by simp; omega), cell_apart FK0.out.2.1 HGW1.out (by simp; omega), cell_apart FK0.out.2.2.1 HGW1.out (by simp; omega), cell_apart FK0.out.2.2.2.1 HGW1.out (by simp; omega), cell_apart FK0.out.2.2.2.2.1 HGW1.out (by simp; omega), cell_apart FK0.out.2.2.2.2.2 HGW1.out (by simp; omega)⟩
    have FD1 : Hid ((World.drew ((((((v5.setCell ⟨w.heap.size, 0, none⟩ (.int .i64 xa.st)).setCell ⟨w.heap.size, 1, none⟩ (.slice pa ka ra)).setCell ⟨w.heap.size, 2, none⟩ (.slice qa ma da)).setCell ⟨w.heap.size + 1, 0, none⟩ (.int .i64 xc.st)).setCell ⟨w.heap.size + 1, 1, none⟩ (.slice pc kc rc)).setCell ⟨w.heap.size + 1, 2, none⟩ (.slice qc mc dc))).cell? ⟨S, 0, none⟩ = some (.int .i64 xa.st) ∧ (World.drew ((((((v5.setCell ⟨w.heap.size, 0, none⟩ (.int .i64 xa.st)).setCell ⟨w.heap.size, 1, none⟩ (.slice pa ka ra)).setCell ⟨w.heap.size, 2, none⟩ (.slice qa ma da)).setCell ⟨w.heap.size + 1, 0, none⟩ (.int .i64 xc.st)).setCell ⟨w.heap.size + 1, 1, none⟩ (.slice pc kc rc)).setCell ⟨w.heap.size + 1, 2, none⟩ (.slice qc mc dc))).cell? ⟨S, 1, none⟩ = some (.slice pa ka ra) ∧ (World.drew ((((((v5.setCell ⟨w.heap.size, 0, none⟩ (.int .i64 xa.st)).setCell ⟨w.heap.size, 1, none⟩ (.slice pa ka ra)).setCell ⟨w.heap.size, 2, none⟩ (.slice qa ma da)).setCell ⟨w.heap.size + 1, 0, none⟩ (.int .i64 xc.st)).setCell ⟨w.heap.size + 1, 1, none⟩ (.slice pc kc rc)).setCell ⟨w.heap.size + 1, 2, none⟩ (.slice qc mc dc))).cell? ⟨S, 2, none⟩ = some (.slice qa ma da) ∧ (World.drew ((((((v5.setCell ⟨w.heap.size, 0, none⟩ (.int .i64 xa.st)).setCell ⟨w.heap.size, 1, none⟩ (.slice pa ka ra)).setCell ⟨w.heap.size, 2, none⟩ (.slice qa ma da)).setCell ⟨w.heap.size + 1, 0, none⟩ (.int .i64 xc.st)).setCell ⟨w.heap.size + 1, 1, none⟩ (.slice pc kc rc)).setCell ⟨w.heap.size + 1, 2, none⟩ (.slice qc mc dc))).cell? ⟨GB, 0, none⟩ = some (.int .i64 xb.st) ∧ (World.drew ((((((v5.setCell ⟨w.heap.size, 0, none⟩ (.int .i64 xa.st)).setCell ⟨w.heap.size, 1, none⟩ (.slice pa ka ra)).setCell ⟨w.heap.size, 2, none⟩ (.slice qa ma da)).setCell ⟨w.heap.size + 1, 0, none⟩ (.int .i64 xc.st)).setCell ⟨w.heap.size + 1, 1, none⟩ (.slice pc kc rc)).setCell ⟨w.heap.size + 1, 2, none⟩ (.slice qc mc dc))).cell? ⟨GB, 1, none⟩ = some (.slice pb kb rb) ∧ (World.drew ((((((v5.setCell ⟨w.heap.size, 0, none⟩ (.int .i64 xa.st)).setCell ⟨w.heap.size, 1, none⟩ (.slice pa ka ra)).setCell ⟨w.heap.size, 2, none⟩ (.slice qa ma da)).setCell ⟨w.heap.size + 1, 0, none⟩ (.int .i64 xc.st)).setCell ⟨w.heap.size + 1, 1, none⟩ (.slice pc kc rc)).setCell ⟨w.heap.size + 1, 2, none⟩ (.slice qc mc dc))).cell? ⟨GB, 2, none⟩ = some (.slice qb mb db)) := Lib.hid (by simp only [cell_drew9]; exact FK1.out)
    obtain ⟨f0, f1, f2, g0, g1, g2⟩ := three_cells Z1B.out
    have HP1 := Lib.hid (three_put Z1B.out (.int .i64 xc.st) (.slice pc kc rc) (.slice qc mc dc))
    go_simp
    clear f0 f1 f2 g0 g1 g2
    refine hK.out _ _ FK1.out (fun hHeld => ?_)
    clear hK K
    try simp only [Act.put, List.setIfInBounds_toArray, List.set_cons_zero, List.set_cons_succ]
    refine wpAnyH_done (by kernel_rfl) ?_ _
    have HZ0 : Hid (((((((v5.setCell ⟨w.heap.size, 0, none⟩ (.int .i64 xa.st)).setCell ⟨w.heap.size, 1, none⟩ (.slice pa ka ra)).setCell ⟨w.heap.size, 2, none⟩ (.slice qa ma da)).setCell ⟨w.heap.size + 1, 0, none⟩ (.int .i64 xc.st)).setCell ⟨w.heap.size + 1, 1, none⟩ (.slice pc kc rc)).setCell ⟨w.heap.size + 1, 2, none⟩ (.slice qc mc dc)).heap[w.heap.size]? = _) := Lib.hid ((HGW1.out.block w.heap.size (by have := HGW0.out.size; omega) (by simp)).trans HP0.out.2.2.2)
    have HZ1 := Lib.hid HP1.out.2.2.2
    have HIN : Hid (Inside w.heap.size (w.heap.size + 2) v5 ((((((v5.setCell ⟨w.heap.size, 0, none⟩ (.int .i64 xa.st)).setCell ⟨w.heap.size, 1, none⟩ (.slice pa ka ra)).setCell ⟨w.heap.size, 2, none⟩ (.slice qa ma da)).setCell ⟨w.heap.size + 1, 0, none⟩ (.int .i64 xc.st)).setCell ⟨w.heap.size + 1, 1, none⟩ (.slice pc kc rc)).setCell ⟨w.heap.size + 1, 2, none⟩ (.slice qc mc dc))) := Lib.hid ((Inside.row HGW0.out (fun r' e' => by cases e'; omega)).trans (Inside.row HGW1.out (fun r' e' => by cases e'; omega)))
    clear HP0 HP1 HGW0 HGW1 Z1B FK0 FK1 FD0 FD1
    obtain ⟨f0, f1, f2, -, -, -⟩ := three_cells HZ0.out
    obtain ⟨g0, g1, g2, -, -, -⟩ := three_cells HZ1.out
    go_wp2_with fail
    (try simp only [Exit.inBlock, Exit.then])
    refine bodyPost_ret (by simp [results, Try.results85, go_sem, f0, f1, f2, g0, g1, g2]; try rfl) rfl ?_
    exact leave2 S5.out.ownA HOC.out (by omega) (by omega) S5.out.dr HCW.out HAL.out hsA HIN.out HKA.out HKC.out.p
  · have f0 : (y == 0) = false := by simp [n0]
    by_cases n1 : y = 1
    · subst n1
      have DS : Hid (St2 b a n c WA S S GB #[.int .i64 xa.st, .slice pa ka ra, .slice qa ma da] #[.int .i64 xb.st, .slice pb kb rb, .slice qb mb db] xa xb W4.drew) := Lib.hid (HS.out.same (Below.refl _ W4).drew)
      go_wp2_with fail
      refine wp_region_held_drew (S := fun w9 => w9.cell? ⟨S, 0, none⟩ = some (.int .i64 xa.st) ∧ w9.cell? ⟨S, 1, none⟩ = some (.slice pa ka ra) ∧ w9.cell? ⟨S, 2, none⟩ = some (.slice qa ma da) ∧ w9.cell? ⟨GB, 0, none⟩ = some (.int .i64 xb.st) ∧ w9.cell? ⟨GB, 1, none⟩ = some (.slice pb kb rb) ∧ w9.cell? ⟨GB, 2, none⟩ = some (.slice qb mb db)) (by kernel_rfl) ⟨EA.out.1, EA.out.2.1, EA.out.2.2.1, EB.out.1, EB.out.2.1, EB.out.2.2.1⟩ (fun hHeld => ?_)
      refine wpAnyH_take (i := 0) (v := ?v5) (by simp only [List.getElem?_toArray, List.getElem?_cons_succ, List.getElem?_cons_zero]; rfl) (by kernel_rfl) (by kernel_rfl) (by kernel_rfl) (by exact fun _ _ _ h => h) (Or.inl ⟨by rfl, fun w9 hS9 => ?hy5⟩) hHeld ?rest5
      case hy5 =>
        dsimp only at hS9
        obtain ⟨u0, u1, u2, u3, u4, u5⟩ := hS9
        go_simp
        try with_reducible rfl
      try simp only [Act.put, List.setIfInBounds_toArray, List.set_cons_zero, List.set_cons_succ]
      refine wpAnyH_take (i := 2) (v := ?v6) (by simp only [List.getElem?_toArray, List.getElem?_cons_succ, List.getElem?_cons_zero]; rfl) (by kernel_rfl) (by kernel_rfl) (by kernel_rfl) (by exact fun _ _ _ h => h) (Or.inl ⟨by rfl, fun w9 hS9 => ?hy6⟩) hHeld ?rest6
      case hy6 =>
        dsimp only at hS9
        obtain ⟨u0, u1, u2, u3, u4, u5⟩ := hS9
        go_simp
        try with_reducible rfl
      try simp only [Act.put, List.setIfInBounds_toArray, List.set_cons_zero, List.set_cons_succ]
      refine wpAnyH_ready (rs := [1]) (by kernel_rfl) (by simp) (AllReadyH.cons (by simp only [List.getElem?_toArray, List.getElem?_cons_succ, List.getElem?_cons_zero]; rfl) (fun K hK => ?_) AllReadyH.nil)
      go_simp
      refine (l13Any_any b a n c _ DS.out.dr.1).mono ?_
      rintro e v5 ⟨vc, xc, rfl, hoc, hkc, hd5⟩
      obtain ⟨pc, kc, rc, qc, mc, dc, rfl⟩ := hoc.shape
      have S5 := Lib.hid (DS.out.only hd5)
      have HOC := Lib.hid hoc
      have HKC := Lib.hid hkc
      have h45 : W4.heap.size ≤ v5.heap.size := hd5.2.size
      have h45b : W4.heap.size ≤ W4.drew.heap.size := Nat.le_refl _
      have Z05 : Hid (v5.heap[w.heap.size]? = _) := Lib.hid ((hd5.2.block w.heap.size (by omega) (by omega)).trans Z0.out)
      have Z15 : Hid (v5.heap[w.heap.size + 1]? = _) := Lib.hid ((hd5.2.block (w.heap.size + 1) (by omega) (by omega)).trans Z1.out)
      have EA5 := Lib.hid (three_cells S5.out.ga)
      have EB5 := Lib.hid (three_cells S5.out.gb)
      have FK5 : Hid ((v5).cell? ⟨S, 0, none⟩ = some (.int .i64 xa.st) ∧ (v5).cell? ⟨S, 1, none⟩ = some (.slice pa ka ra) ∧ (v5).cell? ⟨S, 2, none⟩ = some (.slice qa ma da) ∧ (v5).cell? ⟨GB, 0, none⟩ = some (.int .i64 xb.st) ∧ (v5).cell? ⟨GB, 1, none⟩ = some (.slice pb kb rb) ∧ (v5).cell? ⟨GB, 2, none⟩ = some (.slice qb mb db)) := Lib.hid ⟨EA5.out.1, EA5.out.2.1, EA5.out.2.2.1, EB5.out.1, EB5.out.2.1, EB5.out.2.2.1⟩
      clear hoc hkc hd5
      go_wp2_with fail
      refine hK.out _ _ FK5.out (fun hHeld => ?_)
      clear hK K
      try simp only [Act.put, List.setIfInBounds_toArray, List.set_cons_zero, List.set_cons_succ]
      refine wpAnyH_ready (rs := [3]) (by kernel_rfl) (by simp) (AllReadyH.cons (by simp only [List.getElem?_toArray, List.getElem?_cons_succ, List.getElem?_cons_zero]; rfl) (fun K hK => ?_) AllReadyH.nil)
      have HGW0 : Hid (v5.grownBy (((v5.setCell ⟨w.heap.size, 0, none⟩ (.int .i64 xc.st)).setCell ⟨w.heap.size, 1, none⟩ (.slice pc kc rc)).setCell ⟨w.heap.size, 2, none⟩ (.slice qc mc dc)) (some (w.heap.size))) := Lib.hid (((put_grown _ _ _ _).trans (put_grown _ _ _ _)).trans (put_grown _ _ _ _))
      have Z1B : Hid ((((v5.setCell ⟨w.heap.size, 0, none⟩ (.int .i64 xc.st)).setCell ⟨w.heap.size, 1, none⟩ (.slice pc kc rc)).setCell ⟨w.heap.size, 2, none⟩ (.slice qc mc dc)).heap[w.heap.size + 1]? = _) := Lib.hid ((HGW0.out.block (w.heap.size + 1) (by omega) (by simp)).trans Z15.out)
      have FK0 : Hid (((((v5.setCell ⟨w.heap.size, 0, none⟩ (.int .i64 xc.st)).setCell ⟨w.heap.size, 1, none⟩ (.slice pc kc rc)).setCell ⟨w.heap.size, 2, none⟩ (.slice qc mc dc))).cell? ⟨S, 0, none⟩ = some (.int .i64 xa.st) ∧ ((((v5.setCell ⟨w.heap.size, 0, none⟩ (.int .i64 xc.st)).setCell ⟨w.heap.size, 1, none⟩ (.slice pc kc rc)).setCell ⟨w.heap.size, 2, none⟩ (.slice qc mc dc))).cell? ⟨S, 1, none⟩ = some (.slice pa ka ra) ∧ ((((v5.setCell ⟨w.heap.size, 0, none⟩ (.int .i64 xc.st)).setCell ⟨w.heap.size, 1, none⟩ (.slice pc kc rc)).setCell ⟨w.heap.size, 2, none⟩ (.slice qc mc dc))).cell? ⟨S, 2, none⟩ = some (.slice qa ma da) ∧ ((((v5.setCell ⟨w.heap.size, 0, none⟩ (.int .i64 xc.st)).setCell ⟨w.heap.size, 1, none⟩ (.slice pc kc rc)).setCell ⟨w.heap.size, 2, none⟩ (.slice qc mc dc))).cell? ⟨GB, 0, none⟩ = some (.int .i64 xb.st) ∧ ((((v5.setCell ⟨w.heap.size, 0, none⟩ (.int .i64 xc.st)).setCell ⟨w.heap.size, 1, none⟩ (.slice pc kc rc)).setCell ⟨w.heap.size, 2, none⟩ (.slice qc mc dc))).cell? ⟨GB, 1, none⟩ = some (.slice pb kb rb) ∧ ((((v5.setCell ⟨w.heap.size, 0, none⟩ (.int .i64 xc.st)).setCell ⟨w.heap.size, 1, none⟩ (.slice pc kc rc)).setCell ⟨w.heap.size, 2, none⟩ (.slice qc mc dc))).cell? ⟨GB, 2, none⟩ = some (.slice qb mb db)) := Lib.hid ⟨cell_apart FK5.out.1 HGW0.out (by simp; omega), cell_apart FK5.out.2.1 HGW0.out (by simp; omega), cell_apart FK5.out.2.2.1 HGW0.out (by simp; omega), cell_apart FK5.out.2.2.2.1 HGW0.out (by simp; omega), cell_apart FK5.out.2.2.2.2.1 HGW0.out (by simp; omega), cell_apart FK5.out.2.2.2.2.2 HGW0.out (by simp; omega)⟩
      have FD0 : Hid ((World.drew (((v5.setCell ⟨w.heap.size, 0, none⟩ (.int .i64 xc.st)).setCell ⟨w.heap.size, 1, none⟩ (.slice pc kc rc)).setCell ⟨w.heap.size, 2, none⟩ (.slice qc mc dc))).cell? ⟨S, 0, none⟩ = some (.int .i64 xa.st) ∧ (World.drew (((v5.setCell ⟨w.heap.size, 0, none⟩ (.int .i64 xc.st)).setCell ⟨w.heap.size, 1, none⟩ (.slice pc kc rc)).setCell ⟨w.heap.size, 2, none⟩ (.slice qc mc dc))).cell? ⟨S, 1, none⟩ = some (.slice pa ka ra) ∧ (World.drew (((v5.setCell ⟨w.heap.size, 0, none⟩ (.int .i64 xc.st)).setCell ⟨w.heap.size, 1, none⟩ (.slice pc kc rc)).setCell ⟨w.heap.size, 2, none⟩ (.slice qc mc dc))).cell? ⟨S, 2, none⟩ = some (.slice qa ma da) ∧ (World.drew (((v5.setCell ⟨w.heap.size, 0, none⟩ (.int .i64 xc.st)).setCell ⟨w.heap.size, 1, none⟩ (.slice pc kc rc)).setCell ⟨w.heap.size, 2, none⟩ (.slice qc mc dc))).cell? ⟨GB, 0, none⟩ = some (.int .i64 xb.st) ∧ (World.drew (((v5.setCell ⟨w.heap.size, 0, none⟩ (.int .i64 xc.st)).setCell ⟨w.heap.size, 1, none⟩ (.slice pc kc rc)).setCell ⟨w.heap.size, 2, none⟩ (.slice qc mc dc))).cell? ⟨GB, 1, none⟩ = some (.slice pb kb rb) ∧ (World.drew (((v5.setCell ⟨w.heap.size, 0, none⟩ (.int .i64 xc.st)).setCell ⟨w.heap.size, 1, none⟩ (.slice pc kc rc)).setCell ⟨w.heap.size, 2, none⟩ (.slice qc mc dc))).cell? ⟨GB, 2, none⟩ = some (.slice qb mb db)) := Lib.hid (by simp only [cell_drew9]; exact FK0.out)
      obtain ⟨f0, f1, f2, g0, g1, g2⟩ := three_cells Z05.out
      have HP0 := Lib.hid (three_put Z05.out (.int .i64 xc.st) (.slice pc kc rc) (.slice qc mc dc))
      go_simp
      clear f0 f1 f2 g0 g1 g2
      refine hK.out _ _ FK0.out (fun hHeld => ?_)
      clear hK K
      try simp only [Act.put, List.setIfInBounds_toArray, List.set_cons_zero, List.set_cons_succ]
      refine wpAnyH_ready (rs := [4]) (by kernel_rfl) (by simp) (AllReadyH.cons (by simp only [List.getElem?_toArray, List.getElem?_cons_succ, List.getElem?_cons_zero]; rfl) (fun K hK => ?_) AllReadyH.nil)
      have HGW1 : Hid ((((v5.setCell ⟨w.heap.size, 0, none⟩ (.int .i64 xc.st)).setCell ⟨w.heap.size, 1, none⟩ (.slice pc kc rc)).setCell ⟨w.heap.size, 2, none⟩ (.slice qc mc dc)).grownBy ((((((v5.setCell ⟨w.heap.size, 0, none⟩ (.int .i64 xc.st)).setCell ⟨w.heap.size, 1, none⟩ (.slice pc kc rc)).setCell ⟨w.heap.size, 2, none⟩ (.slice qc mc dc)).setCell ⟨w.heap.size + 1, 0, none⟩ (.int .i64 xb.st)).setCell ⟨w.heap.size + 1, 1, none⟩ (.slice pb kb rb)).setCell ⟨w.heap.size + 1, 2, none⟩ (.slice qb mb db)) (some (w.heap.size + 1))) := Lib.hid (((put_grown _ _ _ _).trans (put_grown _ _ _ _)).trans (put_grown _ _ _ _))
      have FK1 : Hid ((((((((v5.setCell ⟨w.heap.size, 0, none⟩ (.int .i64 xc.st)).setCell ⟨w.heap.size, 1, none⟩ (.slice pc kc rc)).setCell ⟨w.heap.size, 2, none⟩ (.slice qc mc dc)).setCell ⟨w.heap.size + 1, 0, none⟩ (.int .i64 xb.st)).setCell ⟨w.heap.size + 1, 1, none⟩ (.slice pb kb rb)).setCell ⟨w.heap.size + 1, 2, none⟩ (.slice qb mb db))).cell? ⟨S, 0, none⟩ = some (.int .i64 xa.st) ∧ (((((((v5.setCell ⟨w.heap.size, 0, none⟩ (.int .i64 xc.st)).setCell ⟨w.heap.size, 1, none⟩ (.slice pc kc rc)).setCell ⟨w.heap.size, 2, none⟩ (.slice qc mc dc)).setCell ⟨w.heap.size + 1, 0, none⟩ (.int .i64 xb.st)).setCell ⟨w.heap.size + 1, 1, none⟩ (.slice pb kb rb)).setCell ⟨w.heap.size + 1, 2, none⟩ (.slice qb mb db))).cell? ⟨S, 1, none⟩ = some (.slice pa ka ra) ∧ (((((((v5.setCell ⟨w.heap.size, 0, none⟩ (.int .i64 xc.st)).setCell ⟨w.heap.size, 1, none⟩ (.slice pc kc rc)).setCell ⟨w.heap.size, 2, none⟩ (.slice qc mc dc)).setCell ⟨w.heap.size + 1, 0, none⟩ (.int .i64 xb.st)).setCell ⟨w.heap.size + 1, 1, none⟩ (.slice pb kb rb)).setCell ⟨w.heap.size + 1, 2, none⟩ (.slice qb mb db))).cell? ⟨S, 2, none⟩ = some (.slice qa ma da) ∧ (((((((v5.setCell ⟨w.heap.size, 0, none⟩ (.int .i64 xc.st)).setCell ⟨w.heap.size, 1, none⟩ (.slice pc kc rc)).setCell ⟨w.heap.size, 2, none⟩ (.slice qc mc dc)).setCell ⟨w.heap.size + 1, 0, none⟩ (.int .i64 xb.st)).setCell ⟨w.heap.size + 1, 1, none⟩ (.slice pb kb rb)).setCell ⟨w.heap.size + 1, 2, none⟩ (.slice qb mb db))).cell? ⟨GB, 0, none⟩ = some (.int .i64 xb.st) ∧ (((((((v5.setCell ⟨w.heap.size, 0, none⟩ (.int .i64 xc.st)).setCell ⟨w.heap.size, 1, none⟩ (.slice pc kc rc)).setCell ⟨w.heap.size, 2, none⟩ (.slice qc mc dc)).setCell ⟨w.heap.size + 1, 0, none⟩ (.int .i64 xb.st)).setCell ⟨w.heap.size + 1, 1, none⟩ (.slice pb kb rb)).setCell ⟨w.heap.size + 1, 2, none⟩ (.slice qb mb db))).cell? ⟨GB, 1, none⟩ = some (.slice pb kb rb) ∧ (((((((v5.setCell ⟨w.heap.size, 0, none⟩ (.int .i64 xc.st)).setCell ⟨w.heap.size, 1, none⟩ (.slice pc kc rc)).setCell ⟨w.heap.size, 2, none⟩ (.slice qc mc dc)).setCell ⟨w.heap.size + 1, 0, none⟩ (.int .i64 xb.st)).setCell ⟨w.heap.size + 1, 1, none⟩ (.slice pb kb rb)).setCell ⟨w.heap.size + 1, 2, none⟩ (.slice qb mb db))).cell? ⟨GB, 2, none⟩ = some (.slice qb mb db)) := Lib.hid ⟨cell_apart FK0.out.1 HGW1.out (by simp; omega), cell_apart FK0.out.2.1 HGW1.out (by simp; omega), cell_apart FK0.out.2.2.1 HGW1.out (by simp; omega), cell_apart FK0.out.2.2.2.1 HGW1.out (by simp; omega), cell_apart FK0.out.2.2.2.2.1 HGW1.out (by simp; omega), cell_apart FK0.out.2.2.2.2.2 HGW1.out (by simp; omega)⟩
      have FD1 : Hid ((World.drew ((((((v5.setCell ⟨w.heap.size, 0, none⟩ (.int .i64 xc.st)).setCell ⟨w.heap.size, 1, none⟩ (.slice pc kc rc)).setCell ⟨w.heap.size, 2, none⟩ (.slice qc mc dc)).setCell ⟨w.heap.size + 1, 0, none⟩ (.int .i64 xb.st)).setCell ⟨w.heap.size + 1, 1, none⟩ (.slice pb kb rb)).setCell ⟨w.heap.size + 1, 2, none⟩ (.slice qb mb db))).cell? ⟨S, 0, none⟩ = some (.int .i64 xa.st) ∧ (World.drew ((((((v5.setCell ⟨w.heap.size, 0, none⟩ (.int .i64 xc.st)).setCell ⟨w.heap.size, 1, none⟩ (.slice pc kc rc)).setCell ⟨w.heap.size, 2, none⟩ (.slice qc mc dc)).setCell ⟨w.heap.size + 1, 0, none⟩ (.int .i64 xb.st)).setCell ⟨w.heap.size + 1, 1, none⟩ (.slice pb kb rb)).setCell ⟨w.heap.size + 1, 2, none⟩ (.slice qb mb db))).cell? ⟨S, 1, none⟩ = some (.slice pa ka ra) ∧ (World.drew ((((((v5.setCell ⟨w.heap.size, 0, none⟩ (.int .i64 xc.st)).setCell ⟨w.heap.size, 1, none⟩ (.slice pc kc rc)).setCell ⟨w.heap.size, 2, none⟩ (.slice qc mc dc)).setCell ⟨w.heap.size + 1, 0, none⟩ (.int .i64 xb.st)).setCell ⟨w.heap.size + 1, 1, none⟩ (.slice pb kb rb)).setCell ⟨w.heap.size + 1, 2, none⟩ (.slice qb mb db))).cell? ⟨S, 2, none⟩ = some (.slice qa ma da) ∧ (World.drew ((((((v5.setCell ⟨w.heap.size, 0, none⟩ (.int .i64 xc.st)).setCell ⟨w.heap.size, 1, none⟩ (.slice pc kc rc)).setCell ⟨w.heap.size, 2, none⟩ (.slice qc mc dc)).setCell ⟨w.heap.size + 1, 0, none⟩ (.int .i64 xb.st)).setCell ⟨w.heap.size + 1, 1, none⟩ (.slice pb kb rb)).setCell ⟨w.heap.size + 1, 2, none⟩ (.slice qb mb db))).cell? ⟨GB, 0, none⟩ = some (.int .i64 xb.st) ∧ (World.drew ((((((v5.setCell ⟨w.heap.size, 0, none⟩ (.int .i64 xc.st)).setCell ⟨w.heap.size, 1, none⟩ (.slice pc kc rc)).setCell ⟨w.heap.size, 2, none⟩ (.slice qc mc dc)).setCell ⟨w.heap.size + 1, 0, none⟩ (.int .i64 xb.st)).setCell ⟨w.heap.size + 1, 1, none⟩ (.slice pb kb rb)).setCell ⟨w.heap.size + 1, 2, none⟩ (.slice qb mb db))).cell? ⟨GB, 1, none⟩ = some (.slice pb kb rb) ∧ (World.drew ((((((v5.setCell ⟨w.heap.size, 0, none⟩ (.int .i64 xc.st)).setCell ⟨w.heap.size, 1, none⟩ (.slice pc kc rc)).setCell ⟨w.heap.size, 2, none⟩ (.slice qc mc dc)).setCell ⟨w.heap.size + 1, 0, none⟩ (.int .i64 xb.st)).setCell ⟨w.heap.size + 1, 1, none⟩ (.slice pb kb rb)).setCell ⟨w.heap.size + 1, 2, none⟩ (.slice qb mb db))).cell? ⟨GB, 2, none⟩ = some (.slice qb mb db)) := Lib.hid (by simp only [cell_drew9]; exact FK1.out)
      obtain ⟨f0, f1, f2, g0, g1, g2⟩ := three_cells Z1B.out
      have HP1 := Lib.hid (three_put Z1B.out (.int .i64 xb.st) (.slice pb kb rb) (.slice qb mb db))
      go_simp
      clear f0 f1 f2 g0 g1 g2
      refine hK.out _ _ FK1.out (fun hHeld => ?_)
      clear hK K
      try simp only [Act.put, List.setIfInBounds_toArray, List.set_cons_zero, List.set_cons_succ]
      refine wpAnyH_done (by kernel_rfl) ?_ _
      have HZ0 : Hid (((((((v5.setCell ⟨w.heap.size, 0, none⟩ (.int .i64 xc.st)).setCell ⟨w.heap.size, 1, none⟩ (.slice pc kc rc)).setCell ⟨w.heap.size, 2, none⟩ (.slice qc mc dc)).setCell ⟨w.heap.size + 1, 0, none⟩ (.int .i64 xb.st)).setCell ⟨w.heap.size + 1, 1, none⟩ (.slice pb kb rb)).setCell ⟨w.heap.size + 1, 2, none⟩ (.slice qb mb db)).heap[w.heap.size]? = _) := Lib.hid ((HGW1.out.block w.heap.size (by have := HGW0.out.size; omega) (by simp)).trans HP0.out.2.2.2)
      have HZ1 := Lib.hid HP1.out.2.2.2
      have HIN : Hid (Inside w.heap.size (w.heap.size + 2) v5 ((((((v5.setCell ⟨w.heap.size, 0, none⟩ (.int .i64 xc.st)).setCell ⟨w.heap.size, 1, none⟩ (.slice pc kc rc)).setCell ⟨w.heap.size, 2, none⟩ (.slice qc mc dc)).setCell ⟨w.heap.size + 1, 0, none⟩ (.int .i64 xb.st)).setCell ⟨w.heap.size + 1, 1, none⟩ (.slice pb kb rb)).setCell ⟨w.heap.size + 1, 2, none⟩ (.slice qb mb db))) := Lib.hid ((Inside.row HGW0.out (fun r' e' => by cases e'; omega)).trans (Inside.row HGW1.out (fun r' e' => by cases e'; omega)))
      clear HP0 HP1 HGW0 HGW1 Z1B FK0 FK1 FD0 FD1
      obtain ⟨f0, f1, f2, -, -, -⟩ := three_cells HZ0.out
      obtain ⟨g0, g1, g2, -, -, -⟩ := three_cells HZ1.out
      go_wp2_with fail
      (try simp only [Exit.inBlock, Exit.then])
      refine bodyPost_ret (by simp [results, Try.results85, go_sem, f0, f1, f2, g0, g1, g2]; try rfl) rfl ?_
      exact leave2 HOC.out S5.out.ownB (by omega) (by omega) S5.out.dr HCW.out HAL.out hsA HIN.out HKC.out.p HKB.out
    · have f1 : (y == 1) = false := by simp [n1]
      have FK : Hid ((W4).cell? ⟨S, 0, none⟩ = some (.int .i64 xa.st) ∧ (W4).cell? ⟨S, 1, none⟩ = some (.slice pa ka ra) ∧ (W4).cell? ⟨S, 2, none⟩ = some (.slice qa ma da) ∧ (W4).cell? ⟨GB, 0, none⟩ = some (.int .i64 xb.st) ∧ (W4).cell? ⟨GB, 1, none⟩ = some (.slice pb kb rb) ∧ (W4).cell? ⟨GB, 2, none⟩ = some (.slice qb mb db)) := Lib.hid ⟨EA.out.1, EA.out.2.1, EA.out.2.2.1, EB.out.1, EB.out.2.1, EB.out.2.2.1⟩
      go_wp2_with fail
      refine wp_region_held_drew (S := fun w9 => w9.cell? ⟨S, 0, none⟩ = some (.int .i64 xa.st) ∧ w9.cell? ⟨S, 1, none⟩ = some (.slice pa ka ra) ∧ w9.cell? ⟨S, 2, none⟩ = some (.slice qa ma da) ∧ w9.cell? ⟨GB, 0, none⟩ = some (.int .i64 xb.st) ∧ w9.cell? ⟨GB, 1, none⟩ = some (.slice pb kb rb) ∧ w9.cell? ⟨GB, 2, none⟩ = some (.slice qb mb db)) (by kernel_rfl) ⟨EA.out.1, EA.out.2.1, EA.out.2.2.1, EB.out.1, EB.out.2.1, EB.out.2.2.1⟩ (fun hHeld => ?_)
      refine wpAnyH_take (i := 0) (v := ?v1) (by simp only [List.getElem?_toArray, List.getElem?_cons_succ, List.getElem?_cons_zero]; rfl) (by kernel_rfl) (by kernel_rfl) (by kernel_rfl) (by exact fun _ _ _ h => h) (Or.inl ⟨by rfl, fun w9 hS9 => ?hy1⟩) hHeld ?rest1
      case hy1 =>
        dsimp only at hS9
        obtain ⟨u0, u1, u2, u3, u4, u5⟩ := hS9
        go_simp
        try with_reducible rfl
      try simp only [Act.put, List.setIfInBounds_toArray, List.set_cons_zero, List.set_cons_succ]
      refine wpAnyH_take (i := 1) (v := ?v2) (by simp only [List.getElem?_toArray, List.getElem?_cons_succ, List.getElem?_cons_zero]; rfl) (by kernel_rfl) (by kernel_rfl) (by kernel_rfl) (by exact fun _ _ _ h => h) (Or.inl ⟨by rfl, fun w9 hS9 => ?hy2⟩) hHeld ?rest2
      case hy2 =>
        dsimp only at hS9
        obtain ⟨u0, u1, u2, u3, u4, u5⟩ := hS9
        go_simp
        try with_reducible rfl
      try simp only [Act.put, List.setIfInBounds_toArray, List.set_cons_zero, List.set_cons_succ]
      refine wpAnyH_ready (rs := [2]) (by kernel_rfl) (by simp) (AllReadyH.cons (by simp only [List.getElem?_toArray, List.getElem?_cons_succ, List.getElem?_cons_zero]; rfl) (fun K hK => ?_) AllReadyH.nil)
      have HGW0 : Hid (W4.grownBy (((W4.setCell ⟨w.heap.size, 0, none⟩ (.int .i64 xa.st)).setCell ⟨w.heap.size, 1, none⟩ (.slice pa ka ra)).setCell ⟨w.heap.size, 2, none⟩ (.slice qa ma da)) (some (w.heap.size))) := Lib.hid (((put_grown _ _ _ _).trans (put_grown _ _ _ _)).trans (put_grown _ _ _ _))
      have Z1B : Hid ((((W4.setCell ⟨w.heap.size, 0, none⟩ (.int .i64 xa.st)).setCell ⟨w.heap.size, 1, none⟩ (.slice pa ka ra)).setCell ⟨w.heap.size, 2, none⟩ (.slice qa ma da)).heap[w.heap.size + 1]? = _) := Lib.hid ((HGW0.out.block (w.heap.size + 1) (by omega) (by simp)).trans Z1.out)
      have FK0 : Hid (((((W4.setCell ⟨w.heap.size, 0, none⟩ (.int .i64 xa.st)).setCell ⟨w.heap.size, 1, none⟩ (.slice pa ka ra)).setCell ⟨w.heap.size, 2, none⟩ (.slice qa ma da))).cell? ⟨S, 0, none⟩ = some (.int .i64 xa.st) ∧ ((((W4.setCell ⟨w.heap.size, 0, none⟩ (.int .i64 xa.st)).setCell ⟨w.heap.size, 1, none⟩ (.slice pa ka ra)).setCell ⟨w.heap.size, 2, none⟩ (.slice qa ma da))).cell? ⟨S, 1, none⟩ = some (.slice pa ka ra) ∧ ((((W4.setCell ⟨w.heap.size, 0, none⟩ (.int .i64 xa.st)).setCell ⟨w.heap.size, 1, none⟩ (.slice pa ka ra)).setCell ⟨w.heap.size, 2, none⟩ (.slice qa ma da))).cell? ⟨S, 2, none⟩ = some (.slice qa ma da) ∧ ((((W4.setCell ⟨w.heap.size, 0, none⟩ (.int .i64 xa.st)).setCell ⟨w.heap.size, 1, none⟩ (.slice pa ka ra)).setCell ⟨w.heap.size, 2, none⟩ (.slice qa ma da))).cell? ⟨GB, 0, none⟩ = some (.int .i64 xb.st) ∧ ((((W4.setCell ⟨w.heap.size, 0, none⟩ (.int .i64 xa.st)).setCell ⟨w.heap.size, 1, none⟩ (.slice pa ka ra)).setCell ⟨w.heap.size, 2, none⟩ (.slice qa ma da))).cell? ⟨GB, 1, none⟩ = some (.slice pb kb rb) ∧ ((((W4.setCell ⟨w.heap.size, 0, none⟩ (.int .i64 xa.st)).setCell ⟨w.heap.size, 1, none⟩ (.slice pa ka ra)).setCell ⟨w.heap.size, 2, none⟩ (.slice qa ma da))).cell? ⟨GB, 2, none⟩ = some (.slice qb mb db)) := Lib.hid ⟨cell_apart FK.out.1 HGW0.out (by simp; omega), cell_apart FK.out.2.1 HGW0.out (by simp; omega), cell_apart FK.out.2.2.1 HGW0.out (by simp; omega), cell_apart FK.out.2.2.2.1 HGW0.out (by simp; omega), cell_apart FK.out.2.2.2.2.1 HGW0.out (by simp; omega), cell_apart FK.out.2.2.2.2.2 HGW0.out (by simp; omega)⟩
      have FD0 : Hid ((World.drew (((W4.setCell ⟨w.heap.size, 0, none⟩ (.int .i64 xa.st)).setCell ⟨w.heap.size, 1, none⟩ (.slice pa ka ra)).setCell ⟨w.heap.size, 2, none⟩ (.slice qa ma da))).cell? ⟨S, 0, none⟩ = some (.int .i64 xa.st) ∧ (World.drew (((W4.setCell ⟨w.heap.size, 0, none⟩ (.int .i64 xa.st)).setCell ⟨w.heap.size, 1, none⟩ (.slice pa ka ra)).setCell ⟨w.heap.size, 2, none⟩ (.slice qa ma da))).cell? ⟨S, 1, none⟩ = some (.slice pa ka ra) ∧ (World.drew (((W4.setCell ⟨w.heap.size, 0, none⟩ (.int .i64 xa.st)).setCell ⟨w.heap.size, 1, none⟩ (.slice pa ka ra)).setCell ⟨w.heap.size, 2, none⟩ (.slice qa ma da))).cell? ⟨S, 2, none⟩ = some (.slice qa ma da) ∧ (World.drew (((W4.setCell ⟨w.heap.size, 0, none⟩ (.int .i64 xa.st)).setCell ⟨w.heap.size, 1, none⟩ (.slice pa ka ra)).setCell ⟨w.heap.size, 2, none⟩ (.slice qa ma da))).cell? ⟨GB, 0, none⟩ = some (.int .i64 xb.st) ∧ (World.drew (((W4.setCell ⟨w.heap.size, 0, none⟩ (.int .i64 xa.st)).setCell ⟨w.heap.size, 1, none⟩ (.slice pa ka ra)).setCell ⟨w.heap.size, 2, none⟩ (.slice qa ma da))).cell? ⟨GB, 1, none⟩ = some (.slice pb kb rb) ∧ (World.drew (((W4.setCell ⟨w.heap.size, 0, none⟩ (.int .i64 xa.st)).setCell ⟨w.heap.size, 1, none⟩ (.slice pa ka ra)).setCell ⟨w.heap.size, 2, none⟩ (.slice qa ma da))).cell? ⟨GB, 2, none⟩ = some (.slice qb mb db)) := Lib.hid (by simp only [cell_drew9]; exact FK0.out)
      obtain ⟨f0, f1, f2, g0, g1, g2⟩ := three_cells Z0.out
      have HP0 := Lib.hid (three_put Z0.out (.int .i64 xa.st) (.slice pa ka ra) (.slice qa ma da))
      go_simp
      clear f0 f1 f2 g0 g1 g2
      refine hK.out _ _ FD0.out (fun hHeld => ?_)
      clear hK K
      try simp only [Act.put, List.setIfInBounds_toArray, List.set_cons_zero, List.set_cons_succ]
      refine wpAnyH_ready (rs := [3]) (by kernel_rfl) (by simp) (AllReadyH.cons (by simp only [List.getElem?_toArray, List.getElem?_cons_succ, List.getElem?_cons_zero]; rfl) (fun K hK => ?_) AllReadyH.nil)
      have HGW1 : Hid ((((W4.setCell ⟨w.heap.size, 0, none⟩ (.int .i64 xa.st)).setCell ⟨w.heap.size, 1, none⟩ (.slice pa ka ra)).setCell ⟨w.heap.size, 2, none⟩ (.slice qa ma da)).grownBy ((((((W4.setCell ⟨w.heap.size, 0, none⟩ (.int .i64 xa.st)).setCell ⟨w.heap.size, 1, none⟩ (.slice pa ka ra)).setCell ⟨w.heap.size, 2, none⟩ (.slice qa ma da)).setCell ⟨w.heap.size + 1, 0, none⟩ (.int .i64 xb.st)).setCell ⟨w.heap.size + 1, 1, none⟩ (.slice pb kb rb)).setCell ⟨w.heap.size + 1, 2, none⟩ (.slice qb mb db)) (some (w.heap.size + 1))) := Lib.hid (((put_grown _ _ _ _).trans (put_grown _ _ _ _)).trans (put_grown _ _ _ _))
      have FK1 : Hid ((((((((W4.setCell ⟨w.heap.size, 0, none⟩ (.int .i64 xa.st)).setCell ⟨w.heap.size, 1, none⟩ (.slice pa ka ra)).setCell ⟨w.heap.size, 2, none⟩ (.slice qa ma da)).setCell ⟨w.heap.size + 1, 0, none⟩ (.int .i64 xb.st)).setCell ⟨w.heap.size + 1, 1, none⟩ (.slice pb kb rb)).setCell ⟨w.heap.size + 1, 2, none⟩ (.slice qb mb db))).cell? ⟨S, 0, none⟩ = some (.int .i64 xa.st) ∧ (((((((W4.setCell ⟨w.heap.size, 0, none⟩ (.int .i64 xa.st)).setCell ⟨w.heap.size, 1, none⟩ (.slice pa ka ra)).setCell ⟨w.heap.size, 2, none⟩ (.slice qa ma da)).setCell ⟨w.heap.size + 1, 0, none⟩ (.int .i64 xb.st)).setCell ⟨w.heap.size + 1, 1, none⟩ (.slice pb kb rb)).setCell ⟨w.heap.size + 1, 2, none⟩ (.slice qb mb db))).cell? ⟨S, 1, none⟩ = some (.slice pa ka ra) ∧ (((((((W4.setCell ⟨w.heap.size, 0, none⟩ (.int .i64 xa.st)).setCell ⟨w.heap.size, 1, none⟩ (.slice pa ka ra)).setCell ⟨w.heap.size, 2, none⟩ (.slice qa ma da)).setCell ⟨w.heap.size + 1, 0, none⟩ (.int .i64 xb.st)).setCell ⟨w.heap.size + 1, 1, none⟩ (.slice pb kb rb)).setCell ⟨w.heap.size + 1, 2, none⟩ (.slice qb mb db))).cell? ⟨S, 2, none⟩ = some (.slice qa ma da) ∧ (((((((W4.setCell ⟨w.heap.size, 0, none⟩ (.int .i64 xa.st)).setCell ⟨w.heap.size, 1, none⟩ (.slice pa ka ra)).setCell ⟨w.heap.size, 2, none⟩ (.slice qa ma da)).setCell ⟨w.heap.size + 1, 0, none⟩ (.int .i64 xb.st)).setCell ⟨w.heap.size + 1, 1, none⟩ (.slice pb kb rb)).setCell ⟨w.heap.size + 1, 2, none⟩ (.slice qb mb db))).cell? ⟨GB, 0, none⟩ = some (.int .i64 xb.st) ∧ (((((((W4.setCell ⟨w.heap.size, 0, none⟩ (.int .i64 xa.st)).setCell ⟨w.heap.size, 1, none⟩ (.slice pa ka ra)).setCell ⟨w.heap.size, 2, none⟩ (.slice qa ma da)).setCell ⟨w.heap.size + 1, 0, none⟩ (.int .i64 xb.st)).setCell ⟨w.heap.size + 1, 1, none⟩ (.slice pb kb rb)).setCell ⟨w.heap.size + 1, 2, none⟩ (.slice qb mb db))).cell? ⟨GB, 1, none⟩ = some (.slice pb kb rb) ∧ (((((((W4.setCell ⟨w.heap.size, 0, none⟩ (.int .i64 xa.st)).setCell ⟨w.heap.size, 1, none⟩ (.slice pa ka ra)).setCell ⟨w.heap.size, 2, none⟩ (.slice qa ma da)).setCell ⟨w.heap.size + 1, 0, none⟩ (.int .i64 xb.st)).setCell ⟨w.heap.size + 1, 1, none⟩ (.slice pb kb rb)).setCell ⟨w.heap.size + 1, 2, none⟩ (.slice qb mb db))).cell? ⟨GB, 2, none⟩ = some (.slice qb mb db)) := Lib.hid ⟨cell_apart FK0.out.1 HGW1.out (by simp; omega), cell_apart FK0.out.2.1 HGW1.out (by simp; omega), cell_apart FK0.out.2.2.1 HGW1.out (by simp; omega), cell_apart FK0.out.2.2.2.1 HGW1.out (by simp; omega), cell_apart FK0.out.2.2.2.2.1 HGW1.out (by simp; omega), cell_apart FK0.out.2.2.2.2.2 HGW1.out (by simp; omega)⟩
      have FD1 : Hid ((World.drew ((((((W4.setCell ⟨w.heap.size, 0, none⟩ (.int .i64 xa.st)).setCell ⟨w.heap.size, 1, none⟩ (.slice pa ka ra)).setCell ⟨w.heap.size, 2, none⟩ (.slice qa ma da)).setCell ⟨w.heap.size + 1, 0, none⟩ (.int .i64 xb.st)).setCell ⟨w.heap.size + 1, 1, none⟩ (.slice pb kb rb)).setCell ⟨w.heap.size + 1, 2, none⟩ (.slice qb mb db))).cell? ⟨S, 0, none⟩ = some (.int .i64 xa.st) ∧ (World.drew ((((((W4.setCell ⟨w.heap.size, 0, none⟩ (.int .i64 xa.st)).setCell ⟨w.heap.size, 1, none⟩ (.slice pa ka ra)).setCell ⟨w.heap.size, 2, none⟩ (.slice qa ma da)).setCell ⟨w.heap.size + 1, 0, none⟩ (.int .i64 xb.st)).setCell ⟨w.heap.size + 1, 1, none⟩ (.slice pb kb rb)).setCell ⟨w.heap.size + 1, 2, none⟩ (.slice qb mb db))).cell? ⟨S, 1, none⟩ = some (.slice pa ka ra) ∧ (World.drew ((((((W4.setCell ⟨w.heap.size, 0, none⟩ (.int .i64 xa.st)).setCell ⟨w.heap.size, 1, none⟩ (.slice pa ka ra)).setCell ⟨w.heap.size, 2, none⟩ (.slice qa ma da)).setCell ⟨w.heap.size + 1, 0, none⟩ (.int .i64 xb.st)).setCell ⟨w.heap.size + 1, 1, none⟩ (.slice pb kb rb)).setCell ⟨w.heap.size + 1, 2, none⟩ (.slice qb mb db))).cell? ⟨S, 2, none⟩ = some (.slice qa ma da) ∧ (World.drew ((((((W4.setCell ⟨w.heap.size, 0, none⟩ (.int .i64 xa.st)).setCell ⟨w.heap.size, 1, none⟩ (.slice pa ka ra)).setCell ⟨w.heap.size, 2, none⟩ (.slice qa ma da)).setCell ⟨w.heap.size + 1, 0, none⟩ (.int .i64 xb.st)).setCell ⟨w.heap.size + 1, 1, none⟩ (.slice pb kb rb)).setCell ⟨w.heap.size + 1, 2, none⟩ (.slice qb mb db))).cell? ⟨GB, 0, none⟩ = some (.int .i64 xb.st) ∧ (World.drew ((((((W4.setCell ⟨w.heap.size, 0, none⟩ (.int .i64 xa.st)).setCell ⟨w.heap.size, 1, none⟩ (.slice pa ka ra)).setCell ⟨w.heap.size, 2, none⟩ (.slice qa ma da)).setCell ⟨w.heap.size + 1, 0, none⟩ (.int .i64 xb.st)).setCell ⟨w.heap.size + 1, 1, none⟩ (.slice pb kb rb)).setCell ⟨w.heap.size + 1, 2, none⟩ (.slice qb mb db))).cell? ⟨GB, 1, none⟩ = some (.slice pb kb rb) ∧ (World.drew ((((((W4.setCell ⟨w.heap.size, 0, none⟩ (.int .i64 xa.st)).setCell ⟨w.heap.size, 1, none⟩ (.slice pa ka ra)).setCell ⟨w.heap.size, 2, none⟩ (.slice qa ma da)).setCell ⟨w.heap.size + 1, 0, none⟩ (.int .i64 xb.st)).setCell ⟨w.heap.size + 1, 1, none⟩ (.slice pb kb rb)).setCell ⟨w.heap.size + 1, 2, none⟩ (.slice qb mb db))).cell? ⟨GB, 2, none⟩ = some (.slice qb mb db)) := Lib.hid (by simp only [cell_drew9]; exact FK1.out)
      obtain ⟨f0, f1, f2, g0, g1, g2⟩ := three_cells Z1B.out
      have HP1 := Lib.hid (three_put Z1B.out (.int .i64 xb.st) (.slice pb kb rb) (.slice qb mb db))
      go_simp
      clear f0 f1 f2 g0 g1 g2
      refine hK.out _ _ FD1.out (fun hHeld => ?_)
      clear hK K
      try simp only [Act.put, List.setIfInBounds_toArray, List.set_cons_zero, List.set_cons_succ]
      refine wpAnyH_done (by kernel_rfl) ?_ _
      have HZ0 : Hid (((((((W4.setCell ⟨w.heap.size, 0, none⟩ (.int .i64 xa.st)).setCell ⟨w.heap.size, 1, none⟩ (.slice pa ka ra)).setCell ⟨w.heap.size, 2, none⟩ (.slice qa ma da)).setCell ⟨w.heap.size + 1, 0, none⟩ (.int .i64 xb.st)).setCell ⟨w.heap.size + 1, 1, none⟩ (.slice pb kb rb)).setCell ⟨w.heap.size + 1, 2, none⟩ (.slice qb mb db)).heap[w.heap.size]? = _) := Lib.hid ((HGW1.out.block w.heap.size (by have := HGW0.out.size; omega) (by simp)).trans HP0.out.2.2.2)
      have HZ1 := Lib.hid HP1.out.2.2.2
      have HIN : Hid (Inside w.heap.size (w.heap.size + 2) W4 ((((((W4.setCell ⟨w.heap.size, 0, none⟩ (.int .i64 xa.st)).setCell ⟨w.heap.size, 1, none⟩ (.slice pa ka ra)).setCell ⟨w.heap.size, 2, none⟩ (.slice qa ma da)).setCell ⟨w.heap.size + 1, 0, none⟩ (.int .i64 xb.st)).setCell ⟨w.heap.size + 1, 1, none⟩ (.slice pb kb rb)).setCell ⟨w.heap.size + 1, 2, none⟩ (.slice qb mb db))) := Lib.hid ((Inside.row HGW0.out (fun r' e' => by cases e'; omega)).trans (Inside.row HGW1.out (fun r' e' => by cases e'; omega)))
      clear HP0 HP1 HGW0 HGW1 Z1B FK0 FK1 FD0 FD1
      obtain ⟨f0, f1, f2, -, -, -⟩ := three_cells HZ0.out
      obtain ⟨g0, g1, g2, -, -, -⟩ := three_cells HZ1.out
      go_wp2_with fail
      (try simp only [Exit.inBlock, Exit.then])
      refine bodyPost_ret (by simp [results, Try.results85, go_sem, f0, f1, f2, g0, g1, g2]; try rfl) rfl ?_
      exact leave2 HS.out.ownA HS.out.ownB (by omega) (by omega) HS.out.dr HCW.out HAL.out hsA HIN.out.drew HKA.out HKB.out
set_option maxHeartbeats 2000000 in
set_option maxRecDepth 100000 in
theorem drawPairsOf_any (a : Option Addr) (n c : Nat) (w : World) (hC : Code w a n) : Calls Try.prog 48 #[.slice a n c] w (DrewTwo w) := by
  obtain ⟨hAL, hR0, hR1, hS⟩ := twice w #[.int .i64 0, .slice none 0 0, .slice none 0 0] #[.int .i64 0, .slice none 0 0, .slice none 0 0] 27 27
  have HAL := Lib.hid hAL
  have HR0 := Lib.hid hR0
  have HR1 := Lib.hid hR1
  have HC := Lib.hid (hC.same hAL)
  have hsA : w.heap.size + 2 ≤ ((w.alloc (.cells #[.int .i64 0, .slice none 0 0, .slice none 0 0] 27)).alloc (.cells #[.int .i64 0, .slice none 0 0, .slice none 0 0] 27)).heap.size := by omega
  clear hC hAL hR0 hR1 hS
  go_enter Try.func48, Try.ntmps48
  go_wp2_with fail
  generalize (w.alloc (.cells #[.int .i64 0, .slice none 0 0, .slice none 0 0] 27)).alloc (.cells #[.int .i64 0, .slice none 0 0, .slice none 0 0] 27) = WA at *
  refine (new_any a n c HC.out.2 _ HC.out.1).mono ?_
  rintro e w2 ⟨rfl, hcu, hb2⟩
  have HB2 := Lib.hid hb2
  have HCU := Lib.hid hcu
  have hs2 := hb2.size
  clear hcu hb2
  go_wp2_with fail
  refine (l14Any_any _ a n c w2 HCU.out).mono ?_
  rintro e w3 ⟨va, xa, vb, xb, rfl, hoa, hka, hob, hkb, hd3⟩
  have hbw := HB2.out.trans (hd3.2.below (Nat.le_refl _) hs2)
  clear hd3
  obtain ⟨pa, ka, ra, qa, ma, da, rfl⟩ := hoa.shape
  obtain ⟨pb, kb, rb, qb, mb, db, rfl⟩ := hob.shape
  have HKK := Lib.hid (And.intro hka hkb)
  have hz0 := (hbw.block w.heap.size (by omega)).trans HR0.out
  have hz1 := (hbw.block (w.heap.size + 1) (by omega)).trans HR1.out
  obtain ⟨f0, f1, f2, g0, g1, g2⟩ := three_cells hz0
  have hG0 : w3.grownBy (((w3.setCell ⟨w.heap.size, 0, none⟩ (.int .i64 xa.st)).setCell ⟨w.heap.size, 1, none⟩ (.slice pa ka ra)).setCell ⟨w.heap.size, 2, none⟩ (.slice qa ma da)) (some w.heap.size) := ((put_grown _ _ _ _).trans (put_grown _ _ _ _)).trans (put_grown _ _ _ _)
  have hs3 := hbw.size
  have hz1b := (hG0.block (w.heap.size + 1) (by omega) (by simp)).trans hz1
  obtain ⟨k0, k1, k2, l0, l1, l2⟩ := three_cells hz1b
  have hP0 := three_put hz0 (.int .i64 xa.st) (.slice pa ka ra) (.slice qa ma da)
  have hP1 := three_put hz1b (.int .i64 xb.st) (.slice pb kb rb) (.slice qb mb db)
  have hG1 : World.grownBy (((w3.setCell ⟨w.heap.size, 0, none⟩ (.int .i64 xa.st)).setCell ⟨w.heap.size, 1, none⟩ (.slice pa ka ra)).setCell ⟨w.heap.size, 2, none⟩ (.slice qa ma da)) ((((((w3.setCell ⟨w.heap.size, 0, none⟩ (.int .i64 xa.st)).setCell ⟨w.heap.size, 1, none⟩ (.slice pa ka ra)).setCell ⟨w.heap.size, 2, none⟩ (.slice qa ma da)).setCell ⟨w.heap.size + 1, 0, none⟩ (.int .i64 xb.st)).setCell ⟨w.heap.size + 1, 1, none⟩ (.slice pb kb rb)).setCell ⟨w.heap.size + 1, 2, none⟩ (.slice qb mb db)) (some (w.heap.size + 1)) := ((put_grown _ _ _ _).trans (put_grown _ _ _ _)).trans (put_grown _ _ _ _)
  have hZ0 := (hG1.block w.heap.size (by have := hG0.size; omega) (by simp)).trans hP0.2.2.2
  have HZ := Lib.hid (And.intro (three_cells hZ0) (three_cells hP1.2.2.2))
  have HGG := Lib.hid (And.intro hG0 hG1)
  have HBW := Lib.hid hbw
  obtain ⟨t0, t1, t2, -⟩ := hP0
  obtain ⟨t3, t4, t5, -⟩ := hP1
  have HOO := Lib.hid (And.intro hoa hob)
  clear hoa hob hka hkb hbw hz0 hz1 hz1b hG0 hG1 hZ0
  go_wp2_with fail
  obtain ⟨⟨z0, z1, z2, -⟩, y0, y1, y2, -⟩ := HZ.out
  (try simp only [Exit.inBlock, Exit.then])
  refine bodyPost_ret (by simp [results, Try.results48, go_sem, z0, z1, z2, y0, y1, y2]; try rfl) rfl ?_
  have hin : Inside w.heap.size (w.heap.size + 2) w3 ((((((w3.setCell ⟨w.heap.size, 0, none⟩ (.int .i64 xa.st)).setCell ⟨w.heap.size, 1, none⟩ (.slice pa ka ra)).setCell ⟨w.heap.size, 2, none⟩ (.slice qa ma da)).setCell ⟨w.heap.size + 1, 0, none⟩ (.int .i64 xb.st)).setCell ⟨w.heap.size + 1, 1, none⟩ (.slice pb kb rb)).setCell ⟨w.heap.size + 1, 2, none⟩ (.slice qb mb db)) := (Inside.row HGG.out.1 (fun r' e' => by cases e'; omega)).trans (Inside.row HGG.out.2 (fun r' e' => by cases e'; omega))
  have hsz := hin.size
  have hww := HAL.out.size
  exact ⟨_, xa, _, xb, rfl, ((HOO.out.1.aside hin (Or.inl (by omega))).lower (by omega)).upper hsz (Nat.le_refl _), HKK.out.1, ((HOO.out.2.aside hin (Or.inl (by omega))).lower (by omega)).upper hsz (Nat.le_refl _), HKK.out.2, hin.to (HAL.out.trans (HBW.out.mono hww)) (Nat.le_refl _) (by omega)⟩
set_option maxHeartbeats 2000000 in
set_option maxRecDepth 100000 in
theorem drawIsSafe_any (a : Option Addr) (n c : Nat) (w : World) (hC : Code w a n) : Calls Try.prog 14 #[.slice a n c] w (DrewTwo w) := by
  obtain ⟨hAL, hR0, hR1, hS⟩ := twice w #[.int .i64 0, .slice none 0 0, .slice none 0 0] #[.int .i64 0, .slice none 0 0, .slice none 0 0] 27 27
  have HAL := Lib.hid hAL
  have HR0 := Lib.hid hR0
  have HR1 := Lib.hid hR1
  have HC := Lib.hid (hC.same hAL)
  have hsA : w.heap.size + 2 ≤ ((w.alloc (.cells #[.int .i64 0, .slice none 0 0, .slice none 0 0] 27)).alloc (.cells #[.int .i64 0, .slice none 0 0, .slice none 0 0] 27)).heap.size := by omega
  clear hC hAL hR0 hR1 hS
  go_enter Try.func14, Try.ntmps14
  go_wp2_with fail
  generalize (w.alloc (.cells #[.int .i64 0, .slice none 0 0, .slice none 0 0] 27)).alloc (.cells #[.int .i64 0, .slice none 0 0, .slice none 0 0] 27) = WA at *
  refine (drawPairsOf_any a n c _ HC.out).mono ?_
  rintro e w3 ⟨va, xa, vb, xb, rfl, hoa, hka, hob, hkb, hbw⟩
  obtain ⟨pa, ka, ra, qa, ma, da, rfl⟩ := hoa.shape
  obtain ⟨pb, kb, rb, qb, mb, db, rfl⟩ := hob.shape
  have HKK := Lib.hid (And.intro hka hkb)
  have hz0 := (hbw.block w.heap.size (by omega)).trans HR0.out
  have hz1 := (hbw.block (w.heap.size + 1) (by omega)).trans HR1.out
  obtain ⟨f0, f1, f2, g0, g1, g2⟩ := three_cells hz0
  have hG0 : w3.grownBy (((w3.setCell ⟨w.heap.size, 0, none⟩ (.int .i64 xa.st)).setCell ⟨w.heap.size, 1, none⟩ (.slice pa ka ra)).setCell ⟨w.heap.size, 2, none⟩ (.slice qa ma da)) (some w.heap.size) := ((put_grown _ _ _ _).trans (put_grown _ _ _ _)).trans (put_grown _ _ _ _)
  have hs3 := hbw.size
  have hz1b := (hG0.block (w.heap.size + 1) (by omega) (by simp)).trans hz1
  obtain ⟨k0, k1, k2, l0, l1, l2⟩ := three_cells hz1b
  have hP0 := three_put hz0 (.int .i64 xa.st) (.slice pa ka ra) (.slice qa ma da)
  have hP1 := three_put hz1b (.int .i64 xb.st) (.slice pb kb rb) (.slice qb mb db)
  have hG1 : World.grownBy (((w3.setCell ⟨w.heap.size, 0, none⟩ (.int .i64 xa.st)).setCell ⟨w.heap.size, 1, none⟩ (.slice pa ka ra)).setCell ⟨w.heap.size, 2, none⟩ (.slice qa ma da)) ((((((w3.setCell ⟨w.heap.size, 0, none⟩ (.int .i64 xa.st)).setCell ⟨w.heap.size, 1, none⟩ (.slice pa ka ra)).setCell ⟨w.heap.size, 2, none⟩ (.slice qa ma da)).setCell ⟨w.heap.size + 1, 0, none⟩ (.int .i64 xb.st)).setCell ⟨w.heap.size + 1, 1, none⟩ (.slice pb kb rb)).setCell ⟨w.heap.size + 1, 2, none⟩ (.slice qb mb db)) (some (w.heap.size + 1)) := ((put_grown _ _ _ _).trans (put_grown _ _ _ _)).trans (put_grown _ _ _ _)
  have hZ0 := (hG1.block w.heap.size (by have := hG0.size; omega) (by simp)).trans hP0.2.2.2
  have HZ := Lib.hid (And.intro (three_cells hZ0) (three_cells hP1.2.2.2))
  have HGG := Lib.hid (And.intro hG0 hG1)
  have HBW := Lib.hid hbw
  obtain ⟨t0, t1, t2, -⟩ := hP0
  obtain ⟨t3, t4, t5, -⟩ := hP1
  have HOO := Lib.hid (And.intro hoa hob)
  clear hoa hob hka hkb hbw hz0 hz1 hz1b hG0 hG1 hZ0
  go_wp2_with fail
  obtain ⟨⟨z0, z1, z2, -⟩, y0, y1, y2, -⟩ := HZ.out
  (try simp only [Exit.inBlock, Exit.then])
  refine bodyPost_ret (by simp [results, Try.results14, go_sem, z0, z1, z2, y0, y1, y2]; try rfl) rfl ?_
  have hin : Inside w.heap.size (w.heap.size + 2) w3 ((((((w3.setCell ⟨w.heap.size, 0, none⟩ (.int .i64 xa.st)).setCell ⟨w.heap.size, 1, none⟩ (.slice pa ka ra)).setCell ⟨w.heap.size, 2, none⟩ (.slice qa ma da)).setCell ⟨w.heap.size + 1, 0, none⟩ (.int .i64 xb.st)).setCell ⟨w.heap.size + 1, 1, none⟩ (.slice pb kb rb)).setCell ⟨w.heap.size + 1, 2, none⟩ (.slice qb mb db)) := (Inside.row HGG.out.1 (fun r' e' => by cases e'; omega)).trans (Inside.row HGG.out.2 (fun r' e' => by cases e'; omega))
  have hsz := hin.size
  have hww := HAL.out.size
  exact ⟨_, xa, _, xb, rfl, ((HOO.out.1.aside hin (Or.inl (by omega))).lower (by omega)).upper hsz (Nat.le_refl _), HKK.out.1, ((HOO.out.2.aside hin (Or.inl (by omega))).lower (by omega)).upper hsz (Nat.le_refl _), HKK.out.2, hin.to (HAL.out.trans (HBW.out.mono hww)) (Nat.le_refl _) (by omega)⟩
end Go.Proofs.Ytckmgbobkffabaa
