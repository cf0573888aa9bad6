/- Draws of byte strings. -/
import Derived.Test.YthdfdniidldkdaaCur
import Derived.Test.YthdfdniidldkdaaEnc3
namespace Go.Proofs.Ythdfdniidldkdaa
open Go.ChangeShapes Go.WideShapes Go.ChangeAt Go.RowKit
set_option linter.unusedVariables false

theorem Only.under {b B : Nat} {u v w : World} (h : Only b u v) (hb : Below B v w) (hB : u.heap.size ≤ B) : Only b u w :=
  ⟨hb.os.trans h.os, hb.tape.trans h.tape, hb.output.trans h.output, Nat.le_trans h.size hb.size, fun k hk hne => (hb.block k (Nat.lt_of_lt_of_le hk hB)).trans (h.block k hk hne)⟩
theorem Curs.under {b B : Nat} {a : Option Addr} {n c : Nat} {u v w : World} (h : Curs v b a n c) (h0 : Curs u b a n c) (hb : Below B v w) (hB : u.heap.size ≤ B) : Curs w b a n c := by
  have hlt := h0.lt
  obtain ⟨⟨k, hh, hk, hcur⟩, hby, hn, hne⟩ := h
  refine ⟨⟨k, hh, hk, ?_⟩, ?_, hn, hne⟩
  · unfold CurAt at *
    rw [hb.block b (by omega)]
    exact hcur
  · intro j hj
    obtain ⟨ad, e, x, h1, h2, hx⟩ := hby j hj
    obtain ⟨ad', e', x', _, _, hx'⟩ := h0.2.1 j hj
    rw [e] at e'
    cases e'
    exact ⟨ad, e, x, h1, h2, by rw [hb.cell (Nat.lt_of_lt_of_le (cell_in hx') hB)]; exact hx⟩
/-- New memory that is not the cursor's leaves the cursor. -/
theorem Drawn.under {b B : Nat} {a : Option Addr} {n c : Nat} {u v w : World} (h : Drawn b a n c u v) (h0 : Curs u b a n c) (hb : Below B v w) (hB : u.heap.size ≤ B) : Drawn b a n c u w := ⟨h.1.under h0 hb hB, h.2.under hb hB⟩
theorem only_grown {b : Nat} {w w' : World} (h : Only b w w') : w.grownBy w' (some b) := ⟨h.os, h.tape, h.output, h.size, fun i hi hne => h.block i hi (fun e => hne (by rw [e]))⟩
/-- A step of the cursor leaves what lies in other blocks. -/
theorem Own.only {k : IntKind} {t : TypeId} {w w' : World} {B n c b lo hi : Nat} {a : Option Addr} {l : List Int} (h : Own k t w B a n c l) (ho : Only b w w') (s : Span a lo hi) (hd : b < lo ∨ hi ≤ b) : Own k t w' B a n c l := by
  have hg := only_grown ho
  cases a with
  | none => exact ⟨h.1, h.2.kept hg (Or.inl rfl)⟩
  | some ad =>
    have h1 := s ad rfl
    refine ⟨h.1, h.2.kept hg (Or.inr ?_)⟩
    simp only [Value.ownBlock, ne_eq, Option.some.injEq]
    omega

/-- What a draw of some bytes leaves. -/
def DrewBytes (b : Nat) (a : Option Addr) (n c : Nat) (m : Nat) (w : World) (e : Ending) (w' : World) : Prop :=
  ∃ (a' : Option Addr) (n' c' : Nat) (l : List Int), e = .returned (.slice a' n' c') ∧ Own .u8 5 w' w.heap.size a' n' c' l ∧ Bs l ∧ l.length = m ∧ Drawn b a n c w w'
set_option maxRecDepth 100000 in
theorem bytes_any (b : Nat) (a : Option Addr) (n c m : Nat) (hm : m ≤ 1000) (w : World) (hc : Curs w b a n c) :
    Calls Try.prog 38 #[.pointer (some ⟨b, 0, none⟩), .int .i64 m] w (DrewBytes b a n c m w) := by
  have hblt := hc.lt
  have H := Lib.hid hc
  clear hc
  obtain ⟨i0, hi, hz0, hz1, hz2⟩ := info_parts infoByteS
  have HI := Lib.hid (And.intro hi (And.intro hz0 (And.intro hz1 hz2)))
  clear hi hz0 hz1 hz2
  go_enter Try.func38, Try.ntmps38
  go_wp2
  go_loopw [5, 6] (fun v i wr => ∃ (a' : Option Addr) (c' j : Nat) (l : List Int), v = .slice a' j c' ∧ i = .int .i64 j ∧ j ≤ m ∧ Own .u8 5 wr w.heap.size a' j c' l ∧ Bs l ∧ Drawn b a n c w wr) (fun _ i _ => m - (intOf i).toNat)
  case atStart => exact ⟨_, 0, 0, [], rfl, rfl, Nat.zero_le _, Own.empty (Nat.le_refl _), Bs.nil, (Drawn.refl H.out).same (alloc_same _ _)⟩
  case round =>
    obtain ⟨a', c', j, l, rfl, rfl, hj, ho, hB, hd⟩ := hrel
    have hsz : w.heap.size ≤ wr.heap.size := hd.2.size
    have HO := Lib.hid ho
    have HS := Lib.hid ho.span
    have HBs := Lib.hid hB
    have HD := Lib.hid hd
    clear ho hB hd
    by_cases hlt : j < m
    · go_wp2_with fail
      refine (step_any b a n c _ HD.out.1).mono ?_
      rintro e w1 ⟨x, hx0, hx1, rfl, hd1⟩
      have hs1 : wr.heap.size ≤ w1.heap.size := hd1.2.size
      have HO1 := Lib.hid (HO.out.only hd1.2 HS.out (Or.inl hblt))
      have HD1 := Lib.hid (HD.out.trans hd1)
      clear hd1
      go_wp2_with (at_builtin; refine wpl_app _ rfl (.tmp 13) (.tmp 17) 22 rfl .u8 5 i0 (.int .u8 0) 1 Try.underlying22 HI.out.1 HI.out.2.1 HI.out.2.2.1 HI.out.2.2.2 rfl rfl (HO1.out.alloc _) rfl (nums_new _ _ _ _) (by omega) ?c1 ?c2 ?_)
      case c1 => omega
      case c2 => simp; omega
      intro a2 c2 w2 ho2 hb2
      have HO2 := Lib.hid ho2
      have HB2 := Lib.hid hb2
      clear ho2 hb2
      go_wp2
      go_roundw
      case rel => exact ⟨a2, c2, j + 1, _, rfl, by go_num, by omega, HO2.out, HBs.out.append (Bs.cons hx0 hx1 Bs.nil), (HD1.out.same (alloc_same _ _)).under H.out HB2.out (Nat.le_refl _)⟩
      case measure => simp [intOf]; omega
    · obtain rfl : j = m := by omega
      go_wp2
      go_ret
      exact ⟨a', j, c', l, rfl, HO.out, HBs.out, HO.out.len, HD.out⟩

set_option maxRecDepth 100000 in
theorem drawAppendUvarint_any (a : Option Addr) (n c : Nat) (w : World) (hc : Code w a n) :
    Calls Try.prog 12 #[.slice a n c] w fun e w' => ∃ (a' : Option Addr) (n' c' : Nat) (l : List Int) (x : Int), e = .returned (.tuple #[.slice a' n' c', .int .i64 x]) ∧ Own .u8 5 w' w.heap.size a' n' c' l ∧ Bs l ∧ n' ≤ 1000 ∧ I64 x ∧ Below w.heap.size w w' := by
  have H := Lib.hid hc
  clear hc
  go_enter Try.func12, Try.ntmps12
  go_wp2_with fail
  refine (new_any a n c H.out.2 _ H.out.1).mono ?_
  rintro e w1 ⟨rfl, hc1, hb1⟩
  have hlt := hc1.lt
  have H1 := Lib.hid hc1
  have HB := Lib.hid hb1
  clear hc1 hb1
  go_wp2_with fail
  refine (below_any w.heap.size a n c 3 (by omega) (by omega) _ H1.out).mono ?_
  rintro e w2 ⟨y, hy0, hy1, rfl, hd2⟩
  obtain ⟨k, rfl⟩ : ∃ k : Nat, y = k := ⟨y.toNat, by omega⟩
  have hs2 : w1.heap.size ≤ w2.heap.size := hd2.2.size
  have H2 := Lib.hid hd2
  clear hd2
  go_wp2_with fail
  refine (bytes_any w.heap.size a n c k (by omega) _ H2.out.1).mono ?_
  rintro e w3 ⟨a3, n3, c3, l, rfl, ho, hBs, hlen, hd3⟩
  have hn3 : n3 ≤ 1000 := by have := ho.len; omega
  have hs3 : w2.heap.size ≤ w3.heap.size := hd3.2.size
  have HO3 := Lib.hid ho
  have HS3 := Lib.hid ho.span
  have HBs := Lib.hid hBs
  have H3 := Lib.hid (H2.out.trans hd3)
  clear ho hBs hlen hd3
  go_wp2_with fail
  refine (one_any w.heap.size a n c _ H3.out.1).mono ?_
  rintro e w4 ⟨v, rfl, hv, hd4⟩
  have HO4 := Lib.hid (HO3.out.only hd4.2 HS3.out (Or.inl (by omega)))
  have H4 := Lib.hid (H3.out.trans hd4)
  have HV := Lib.hid hv
  clear hd4 hv
  go_wp2_with fail
  go_ret2
  exact ⟨a3, n3, c3, l, v, rfl, HO4.out.lower (by omega), HBs.out, hn3, HV.out, HB.out.trans (H4.out.below (Nat.le_refl _) HB.out.size)⟩
set_option maxRecDepth 100000 in
theorem drawAppendBytes_any (a : Option Addr) (n c : Nat) (w : World) (hc : Code w a n) :
    Calls Try.prog 18 #[.slice a n c] w fun e w' => ∃ (a' : Option Addr) (n' c' : Nat) (l : List Int) (b' : Option Addr) (m' d' : Nat) (l' : List Int), e = .returned (.tuple #[.slice a' n' c', .slice b' m' d']) ∧
      Own .u8 5 w' w.heap.size a' n' c' l ∧ Bs l ∧ n' ≤ 1000 ∧ Own .u8 5 w' w.heap.size b' m' d' l' ∧ Bs l' ∧ m' ≤ 1000 ∧ Below w.heap.size w w' := by
  have H := Lib.hid hc
  clear hc
  go_enter Try.func18, Try.ntmps18
  go_wp2_with fail
  refine (new_any a n c H.out.2 _ H.out.1).mono ?_
  rintro e w1 ⟨rfl, hc1, hb1⟩
  have hlt := hc1.lt
  have H1 := Lib.hid hc1
  have HB := Lib.hid hb1
  clear hc1 hb1
  go_wp2_with fail
  refine (below_any w.heap.size a n c 3 (by omega) (by omega) _ H1.out).mono ?_
  rintro e w2 ⟨y, hy0, hy1, rfl, hd2⟩
  obtain ⟨k, rfl⟩ : ∃ k : Nat, y = k := ⟨y.toNat, by omega⟩
  have hs2 : w1.heap.size ≤ w2.heap.size := hd2.2.size
  have H2 := Lib.hid hd2
  clear hd2
  go_wp2_with fail
  refine (bytes_any w.heap.size a n c k (by omega) _ H2.out.1).mono ?_
  rintro e w3 ⟨a3, n3, c3, l, rfl, ho, hBs, hlen, hd3⟩
  have hn3 : n3 ≤ 1000 := by have := ho.len; omega
  have hs3 : w2.heap.size ≤ w3.heap.size := hd3.2.size
  have HO3 := Lib.hid ho
  have HS3 := Lib.hid ho.span
  have HBs := Lib.hid hBs
  have H3 := Lib.hid (H2.out.trans hd3)
  clear ho hBs hlen hd3
  go_wp2_with fail
  refine (below_any w.heap.size a n c 6 (by omega) (by omega) _ H3.out.1).mono ?_
  rintro e w4 ⟨z, hz0, hz1, rfl, hd4⟩
  obtain ⟨q, rfl⟩ : ∃ q : Nat, z = q := ⟨z.toNat, by omega⟩
  have hs4 : w3.heap.size ≤ w4.heap.size := hd4.2.size
  have HO4 := Lib.hid (HO3.out.only hd4.2 HS3.out (Or.inl (by omega)))
  have H4 := Lib.hid (H3.out.trans hd4)
  clear hd4
  go_wp2_with fail
  refine (bytes_any w.heap.size a n c q (by omega) _ H4.out.1).mono ?_
  rintro e w5 ⟨a5, n5, c5, l', rfl, ho, hBs, hlen, hd5⟩
  have hn5 : n5 ≤ 1000 := by have := ho.len; omega
  have hs5 : w4.heap.size ≤ w5.heap.size := hd5.2.size
  have HO5 := Lib.hid (HO4.out.only hd5.2 HS3.out (Or.inl (by omega)))
  have HQ5 := Lib.hid ho
  have HBs5 := Lib.hid hBs
  have H5 := Lib.hid (H4.out.trans hd5)
  clear ho hBs hlen hd5
  go_wp2_with fail
  go_ret2
  exact ⟨a3, n3, c3, l, a5, n5, c5, l', rfl, HO5.out.lower (by omega), HBs.out, hn3, HQ5.out.lower (by omega), HBs5.out, hn5, HB.out.trans (H5.out.below (Nat.le_refl _) HB.out.size)⟩
end Go.Proofs.Ythdfdniidldkdaa
