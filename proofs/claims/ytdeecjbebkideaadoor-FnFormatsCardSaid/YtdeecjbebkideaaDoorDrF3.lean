/- The lists of fields that chapter 4's laws draw. -/
import Derived.Test.YtdeecjbebkideaaDoorDrF2
namespace Go.Proofs.YtdeecjbebkideaaDoor
open Go.ChangeShapes Go.WideShapes Go.ChangeAt Go.RowKit
set_option linter.unusedVariables false

set_option maxRecDepth 100000 in
theorem drawIsFormat_any (a : Option Addr) (n c : Nat) (w : World) (h : Code w a n) :
    Calls Tryd.prog 8 #[.slice a n c] w fun e w' => ∃ (a' : Option Addr) (m c' : Nat) (l : List Fd), e = .returned (.slice a' m c') ∧ OwnF 30 w' w.heap.size a' m c' l ∧ m ≤ 7 ∧ Below w.heap.size w w' := by
  have H := Lib.hid h
  clear h
  go_enter Tryd.func8, Tryd.ntmps8
  go_wp2_with fail
  refine (new_any a n c H.out.2 w H.out.1).mono ?_
  rintro e w1 ⟨rfl, hc1, hb1⟩
  have hs1 := hb1.size
  go_wp2_with fail
  refine (anyF_any w.heap.size a n c w1 hc1).mono ?_
  rintro e w2 ⟨a', m, c', l, rfl, ho, hm, hd⟩
  have HO := Lib.hid (ho.lower hs1)
  have HB := Lib.hid (hb1.trans (hd.below (Nat.le_refl _) hs1))
  clear ho hd hc1 hb1
  go_wp2_with fail
  go_ret
  exact ⟨a', m, c', l, rfl, HO.out, hm, HB.out⟩

section
variable {α : Type} {enc : α → List Value} {s : Nat} {P : Program} (w : World)
theorem wpl_app_nothingI {ops : Array Oper} {rest : List Oper} {o : Oper} {act : Act} {Q : Exit → Act → World → Prop} (hgd : o.guard = none) (q x : Operand) (t : TypeId)
    (ho : o.op = .call { callee := .builtin .append, args := #[q, x], argTypes := #[t, t] })
    (e : TypeId) (i : TypeInfo) (ht : P.underlying t = some (.slice e)) (hi : P.info? e = some i)
    {B n c d : Nat} {a : Option Addr} {l : List α} (hq : act.eval q = .slice a n c) (hown : OwnI enc s e w B a n c l) (hx : act.eval x = .slice none 0 d)
    (h : wpList P ops Q rest (act.put o.dst (.slice a n c)) w) : wpList P ops Q (o :: rest) act w := by
  refine wpList_plain hgd fun K hK => ?_
  have hr := run_app_nothingI (P := P) w B t o.type e i ht hi hown.2 d
  unfold Oper.wp execOp
  simp only [ho, resolve, invoke, builtin, Sem.run_bind, Sem.run_pure, Result.andThen_ok, List.map_toArray, List.map_cons, List.map_nil, hq, hx, hr]
  exact hK _ _ h
theorem OwnI.shape {t : TypeId} {w : World} {B n c : Nat} {a : Option Addr} {l : List α} (h : OwnI enc s t w B a n c l) : (a = none ∧ n = 0 ∧ c = 0) ∨ ∃ g, a = some ⟨g, 0, none⟩ := by
  rcases h.2.2 with ⟨e, _⟩ | ⟨g, cap, cur, e, _⟩
  · cases e; exact Or.inl ⟨rfl, rfl, rfl⟩
  · cases e; exact Or.inr ⟨g, rfl⟩
theorem OwnI.empty {t : TypeId} {w : World} {B : Nat} (hB : B ≤ w.heap.size) : OwnI enc s t (w.alloc (.cells #[] t)) B (some ⟨w.heap.size, 0, Option.none⟩) 0 0 ([] : List α) :=
  ⟨rfl, World.ownsRow_lit w #[] 0 hB (by unfold maxLen; omega) (by simp)⟩
end

/-- What a draw of two lists leaves. -/
def DrewTwo (w : World) (e : Ending) (w' : World) : Prop :=
  ∃ (a1 a2 : Option Addr) (m1 c1 m2 c2 : Nat) (l1 l2 : List Fd), e = .returned (.tuple #[.slice a1 m1 c1, .slice a2 m2 c2]) ∧ Fds w' a1 m1 l1 ∧ Fds w' a2 m2 l2 ∧ Below w.heap.size w w'

set_option maxHeartbeats 1000000 in
set_option maxRecDepth 100000 in
theorem drawEqualFormats_any (a : Option Addr) (n c : Nat) (w : World) (h : Code w a n) :
    Calls Tryd.prog 11 #[.slice a n c] w (DrewTwo w) := by
  have H := Lib.hid h
  clear h
  obtain ⟨i0, hi, hz0, hz1, hz2⟩ := info_parts infoFieldS
  have HI := Lib.hid (And.intro hi (And.intro hz0 (And.intro hz1 hz2)))
  clear hi hz0 hz1 hz2
  go_enter Tryd.func11, Tryd.ntmps11
  go_wp2_with fail
  refine (new_any a n c H.out.2 w H.out.1).mono ?_
  rintro e w1 ⟨rfl, hc1, hb1⟩
  have hs1 := hb1.size
  have hlt := hc1.lt
  have HB1 := Lib.hid hb1
  clear hb1
  go_wp2_with fail
  refine (anyF_any w.heap.size a n c w1 hc1).mono ?_
  rintro e w2 ⟨a1, m1, c1, l1, rfl, ho, hm, hd⟩
  have HO2 := Lib.hid ho
  have HD2 := Lib.hid hd
  have hs2 := hd.2.size
  clear ho hd hc1
  go_wp2_with fail
  refine (once_any w.heap.size a n c 3 (by omega) (by omega) w2 HD2.out.1).mono ?_
  rintro e w3 ⟨tb, rfl, hd3⟩
  have HO3 := Lib.hid (HO2.out.only hd3.2 HO2.out.span (Or.inl hlt))
  have HD3 := Lib.hid (HD2.out.trans hd3)
  have hs3 := hd3.2.size
  clear hd3
  cases tb with
  | true =>
    rcases HO3.out.shape with ⟨rfl, rfl, rfl⟩ | ⟨g, rfl⟩
    · go_wp2_with (at_builtin; refine wpl_app_nothingI _ rfl (.tmp 13) (.tmp 14) 24 rfl 30 i0 Tryd.underlying24 HI.out.1 rfl (OwnI.empty (enc := Fd.enc) (s := 4) (Nat.le_refl _)) rfl ?_)
      go_wp2
      go_ret2
      exact ⟨none, _, 0, 0, 0, 0, [], [], rfl, Items.nothing, (OwnI.empty (enc := Fd.enc) (s := 4) (t := 30) (Nat.le_refl _)).items Fd.enc_len, HB1.out.trans ((HD3.out.below (Nat.le_refl _) hs1).trans ((alloc_same w3 _).mono (by omega)))⟩
    · go_wp2_with (at_builtin; refine wpl_appI _ Fd.enc_len (by omega) fd_cells rfl (.tmp 13) (.tmp 14) 24 rfl 30 i0 (.agg #[.int .i64 0, .int .i64 0, .int .i64 0, .int .i64 0]) 32 Tryd.underlying24 HI.out.1 HI.out.2.1 HI.out.2.2.1 HI.out.2.2.2 rfl rfl (OwnI.empty (B := w3.heap.size) (Nat.le_refl _)) rfl ((HO3.out.alloc _).items Fd.enc_len) (by omega) ?c4 ?c5 ?_)
      case c4 => omega
      case c5 => simp
      intro a5 c5 w5 ho5 hb5
      have hbw : Below w3.heap.size w3 w5 := (alloc_same w3 _).trans hb5
      have HF1 := Lib.hid ((HO3.out.same hbw).items Fd.enc_len)
      have HF2 := Lib.hid (ho5.items Fd.enc_len)
      have HB5 := Lib.hid (HB1.out.trans ((HD3.out.below (Nat.le_refl _) hs1).trans (hbw.mono (by omega))))
      clear ho5 hb5 hbw
      go_wp2
      go_ret2
      exact ⟨_, _, _, _, _, _, _, _, rfl, HF1.out, by simpa using HF2.out, HB5.out⟩
  | false =>
    go_wp2_with fail
    refine (anyF_any w.heap.size a n c w3 HD3.out.1).mono ?_
    rintro e w4 ⟨a2, m2, c2, l2, rfl, ho4, hm4, hd4⟩
    have HF1 := Lib.hid ((HO3.out.only hd4.2 HO3.out.span (Or.inl hlt)).items Fd.enc_len)
    have HF2 := Lib.hid (ho4.items Fd.enc_len)
    have HB4 := Lib.hid (HB1.out.trans ((HD3.out.trans hd4).below (Nat.le_refl _) hs1))
    clear ho4 hd4
    go_wp2
    go_ret2
    exact ⟨_, _, _, _, _, _, _, _, rfl, HF1.out, HF2.out, HB4.out⟩
end Go.Proofs.YtdeecjbebkideaaDoor
