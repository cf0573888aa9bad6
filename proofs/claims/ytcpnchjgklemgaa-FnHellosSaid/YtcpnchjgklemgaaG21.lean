/- A hello and an answer are written: by the program. A list of extensions is written: by the model. A hello and an answer are written: by the model. What the law of hellos draws. -/
import Derived.Test.YtcpnchjgklemgaaG20
import Derived.Test.YtcpnchjgklemgaaG10
import Derived.Test.YtcpnchjgklemgaaG13
import Derived.Deep.RegionHeld3
import Derived.Test.YtcpnchjgklemgaaG18
import Derived.Test.YtcpnchjgklemgaaG3
import Derived.Test.YtcpnchjgklemgaaG4
namespace Go.Proofs.Ytcpnchjgklemgaa
open Go.ChangeShapes Go.WideShapes Go.ChangeAt Go.RowKit
set_option linter.unusedVariables false
set_option linter.unusedSimpArgs false

theorem Inside.new {lo hi : Nat} {w w1 w2 : World} {row : Option Nat} (h : Inside lo hi w w1) (hg : w1.grownBy w2 row) (hr : ∀ r, row = some r → (lo ≤ r ∧ r < hi) ∨ w.heap.size ≤ r) : Inside lo hi w w2 :=
  ⟨hg.os.trans h.os, hg.tape.trans h.tape, hg.output.trans h.output, Nat.le_trans h.size hg.size, fun k hk hd => (hg.block k (Nat.lt_of_lt_of_le hk h.size) fun e => by
    have := hr k e.symm
    omega).trans (h.block k hk hd)⟩
theorem Inside.down {lo hi : Nat} {w w' : World} (h : Inside lo hi w w') (hl : lo ≤ w.heap.size) : Below lo w w' := ⟨h.os, h.tape, h.output, h.size, fun k hk => h.block k (by omega) (Or.inl hk)⟩
theorem flat_take {l : List (List Int)} {j : Nat} {x : List Int} (h : l[j]? = some x) : (l.take (j + 1)).flatten = (l.take j).flatten ++ x := by
  rw [List.take_add_one, h]
  simp
theorem flat_len (l : List (List Int)) : l.flatten.length = numsOf l := by
  unfold numsOf
  rw [List.length_flatten]
set_option maxHeartbeats 4000000 in
set_option maxRecDepth 100000 in
theorem appendLists_any {B S : Nat} {w : World} {q : Option Addr} {r e : Nat} {l : List Int} {a : Option Addr} {n c : Nat} {rows : List (List Int)} (ho : Own .i64 3 w B q r e l) (hs : Span q B S) (hB : B ≤ w.heap.size) (hR : ∀ w', Inside B S w w' → Rws w' a n rows) (hl : l.length + numsOf rows ≤ 1048576) :
    Calls Try.prog 52 #[.slice q r e, .slice a n c] w (Made .i64 3 B (l ++ rows.flatten) w) := by
  have HO := Lib.hid ho
  have HS := Lib.hid hs
  have HR := Lib.hid hR
  have hrn := Lib.hid (hR w (Inside.refl _ _ _)).len
  have hfit := (hR w (Inside.refl _ _ _)).fits
  obtain ⟨i0, hi, hz0, hz1, hz2⟩ := info_parts infoIntS
  have HI := Lib.hid (And.intro hi (And.intro hz0 (And.intro hz1 hz2)))
  clear hi hz0 hz1 hz2 ho hs hR
  go_enter Try.func52, Try.ntmps52
  go_wp2_with fail
  go_loopw [0, 6, 9] (fun v _ i wr => ∃ (j : Nat) (q : Option Addr) (r e : Nat), j ≤ n ∧ i = .int .i64 j ∧ v = .slice q r e ∧ Own .i64 3 wr B q r e (l ++ (rows.take j).flatten) ∧ (∀ ad, q = some ad → (B ≤ ad.block ∧ ad.block < S) ∨ w.heap.size ≤ ad.block) ∧ Inside B S w wr) (fun _ _ i _ => n - (intOf i).toNat)
  case atStart => exact ⟨0, _, _, _, Nat.zero_le _, rfl, rfl, by simpa using HO.out, fun ad e => Or.inl (HS.out ad e), Inside.refl _ _ _⟩
  case round =>
    obtain ⟨j, q, r, e, hj, rfl, rfl, hown, hqs, hin⟩ := hrel
    have HOr := Lib.hid hown
    have HQ := Lib.hid hqs
    have HN := Lib.hid hin
    have hsz := hin.size
    clear hown hqs hin
    by_cases hlt : j < n
    · obtain ⟨ad, p, m, d, y, rfl, hy, hc0, hN, hr⟩ := (HR.out wr HN.out).at_ hlt
      have hym := hN.len
      have hrl : r + m ≤ 1048576 := by
        have h1 := HOr.out.len
        have h2 := numsOf_at hy
        have h3 := numsOf_le rows (j + 1)
        rw [List.length_append, flat_len] at h1
        omega
      have HX : Hid (l ++ (rows.take (j + 1)).flatten = l ++ ((rows.take j).flatten ++ y)) := Lib.hid (by rw [flat_take hy])
      have HNn := Lib.hid hN
      clear hy hN hym
      go_wp2_with (at_builtin; refine wpl_app_e _ rfl (.tmp 13) (.tmp 14) 24 rfl .i64 3 i0 (.int .i64 0) 8 Try.underlying24 HI.out.1 HI.out.2.1 HI.out.2.2.1 HI.out.2.2.2 rfl rfl HOr.out rfl HNn.out (by omega) ?c1 ?c2 ?_)
      case c1 => omega
      case c2 => omega
      intro a2 c2 w2 ho2 hg2 hw2
      have HO2 := Lib.hid ho2
      have HN2 := Lib.hid (HN.out.new hg2 (fun k ek => by
        obtain ⟨ad, e1, rfl⟩ := block_of ek
        exact HQ.out ad e1))
      have HQ2 : Hid (∀ ad, a2 = some ad → (B ≤ ad.block ∧ ad.block < S) ∨ w.heap.size ≤ ad.block) := Lib.hid (fun cd ec => by
        rcases hw2 cd ec with ⟨bd, eb, e2⟩ | e2
        · have := HQ.out bd eb
          omega
        · omega)
      clear ho2 hg2 hw2 hc0
      go_wp2_with fail
      go_roundw
      case rel => exact ⟨j + 1, a2, r + m, c2, by omega, by go_num, rfl, by rw [HX.out]; exact HO2.out, HQ2.out, HN2.out⟩
      case measure => simp [intOf]; omega
    · obtain rfl : j = n := by omega
      have HF : Hid (rows.take j = rows) := Lib.hid (List.take_of_length_le (by rw [hrn.out]; omega))
      go_wp2_with fail
      go_ret
      have h1 := HOr.out
      rw [HF.out] at h1
      exact ⟨_, _, _, rfl, h1, HN.out.down hB⟩
theorem lit_rows2 {w : World} {k : Int} {a b : Option Addr} {n m c d : Nat} {l l' : List Int} (h1 : Nums .i64 w a n l) (r1 : n ≤ c ∧ (c : Int) ≤ 9223372036854775807) (h2 : Nums .i64 w b m l') (r2 : m ≤ d ∧ (d : Int) ≤ 9223372036854775807) :
    ∀ w', Inside w.heap.size (w.heap.size + 1) ((w.alloc (.cells #[.int .i64 k] 3)).alloc (.cells #[.slice a n c, .slice b m d] 24)) w' → Rws w' (some ⟨w.heap.size + 1, 0, none⟩) 2 [l, l'] := fun w' hI => by
  obtain ⟨hsz, hC, hD, hb⟩ := two w #[.int .i64 k] #[.slice a n c, .slice b m d] 3 24
  have hB : Below w.heap.size w w' := hb.trans (hI.down (by omega))
  obtain ⟨c0, c1, _, _⟩ := two_cells ((hI.block (w.heap.size + 1) (by omega) (Or.inr (Nat.le_refl _))).trans hD)
  refine ⟨rfl, by omega, fun j x hj => ?_⟩
  match j, hj with
  | 0, hj => cases hj; exact ⟨_, a, n, c, rfl, by rw [addr_zero]; exact c0, h1.same hB, r1⟩
  | 1, hj => cases hj; exact ⟨_, b, m, d, rfl, by rw [addr_zero]; exact c1, h2.same hB, r2⟩
  | j + 2, hj => simp at hj
theorem lit_rows1 {w : World} {k : Int} {a : Option Addr} {n c : Nat} {l : List Int} (h1 : Nums .i64 w a n l) (r1 : n ≤ c ∧ (c : Int) ≤ 9223372036854775807) :
    ∀ w', Inside w.heap.size (w.heap.size + 1) ((w.alloc (.cells #[.int .i64 k] 3)).alloc (.cells #[.slice a n c] 24)) w' → Rws w' (some ⟨w.heap.size + 1, 0, none⟩) 1 [l] := fun w' hI => by
  obtain ⟨hsz, hC, hD, hb⟩ := two w #[.int .i64 k] #[.slice a n c] 3 24
  have hB : Below w.heap.size w w' := hb.trans (hI.down (by omega))
  have c0 := (block_cell ((hI.block (w.heap.size + 1) (by omega) (Or.inr (Nat.le_refl _))).trans hD) 0).trans rfl
  refine ⟨rfl, by omega, fun j x hj => ?_⟩
  match j, hj with
  | 0, hj => cases hj; exact ⟨_, a, n, c, rfl, by rw [addr_zero]; exact c0, h1.same hB, r1⟩
  | j + 1, hj => simp at hj
theorem own_lit {w : World} (k : Int) (o : Obj) : Own .i64 3 ((w.alloc (.cells #[.int .i64 k] 3)).alloc o) w.heap.size (some ⟨w.heap.size, 0, none⟩) 1 1 [k] ∧ Span (some ⟨w.heap.size, 0, none⟩) w.heap.size (w.heap.size + 1) ∧ Below w.heap.size w ((w.alloc (.cells #[.int .i64 k] 3)).alloc o) :=
  ⟨Own.alloc ⟨rfl, World.ownsRow_lit w #[.int .i64 k] 1 (Nat.le_refl _) (by unfold maxLen; omega) rfl⟩ _, fun ad e => by cases e; exact ⟨Nat.le_refl _, Nat.lt_succ_self _⟩, ((Below.refl _ w).alloc (Nat.le_refl _) _).alloc (by simp) _⟩
set_option maxHeartbeats 4000000 in
set_option maxRecDepth 100000 in
theorem helloBytes_any {w : World} {v : Value} {x : Hel} (h : HelW w v x) : Calls Try.prog 14 #[v] w (Made .i64 3 w.heap.size (helB x) w) := by
  have KH := Lib.hid (fun (w0 : World) (hb : Below w.heap.size w w0) => isHello_any (h.same hb))
  obtain ⟨a, n, c, b, m, d, rfl, h1, h2, h3⟩ := h
  have HB := Lib.hid (alloc_same w (.cells #[.slice a n c, .slice b m d] 27))
  have hC := heap_alloc_new w (.cells #[.slice a n c, .slice b m d] 27 (0, 0))
  change (w.alloc (.cells #[.slice a n c, .slice b m d] 27)).heap[w.heap.size]? = _ at hC
  have hlt : w.heap.size < (w.alloc (.cells #[.slice a n c, .slice b m d] 27)).heap.size := by simp
  cases hh : isH x with
  | false =>
    rw [hh] at KH
    rw [helB_no hh]
    clear hC hh h1 h2 h3
    go_enter Try.func14, Try.ntmps14
    go_wp2_with fail
    refine (KH.out _ HB.out).mono ?_
    rintro e w1 ⟨rfl, hb⟩
    have HB1 := Lib.hid (HB.out.trans (hb.mono HB.out.size))
    clear hb
    go_wp2_with fail
    go_ret
    exact ⟨_, _, _, rfl, Own.empty HB1.out.size, HB1.out.alloc HB1.out.size _⟩
  | true =>
    rw [hh] at KH
    rw [helB_yes hh]
    obtain ⟨hw1, hx1⟩ := isH_parts.1 hh
    have hvl := (areV_len hw1).1
    have HL := Lib.hid h1.len
    have HXL := Lib.hid (encX_few hx1)
    have H1 := Lib.hid (And.intro h1 h3.1)
    have KE := Lib.hid (fun (w0 : World) (hb : Below w.heap.size w w0) => encodeExts_any (c := d) (h2.same hb))
    unfold EncXT at KE
    rw [hx1, encW_yes hx1] at KE
    clear hh h1 h2 h3 hw1 hx1
    go_enter Try.func14, Try.ntmps14
    go_wp2_with fail
    generalize w.alloc (.cells #[.slice a n c, .slice b m d] 27) = W0 at *
    refine (KH.out _ HB.out).mono ?_
    rintro e w1 ⟨rfl, hb⟩
    have HB1 := Lib.hid (HB.out.trans (hb.mono HB.out.size))
    have HC1 := Lib.hid ((hb.block w.heap.size hlt).trans hC)
    have hs1 := Nat.lt_of_lt_of_le hlt hb.size
    clear hb hC
    obtain ⟨c0, c1, _, _⟩ := two_cells HC1.out
    go_wp2_with fail
    refine (KE.out w1 HB1.out).mono ?_
    rintro e w2 ⟨q, m2, d2, rfl, ho2, hb2⟩
    have HB2 := Lib.hid (HB1.out.trans (hb2.mono HB1.out.size))
    obtain ⟨e0, e1, _, _⟩ := two_cells ((hb2.block w.heap.size hs1).trans HC1.out)
    have HO2 := Lib.hid ho2
    have e2 := cell_stay e0 (alloc_same w2 (.cells #[.int .i64 (n : Int)] 3))
    obtain ⟨ow, sp, hbw⟩ := own_lit (w := w2) (n : Int) (.cells #[.slice a n c, .slice q m2 d2] 24)
    have KA := Lib.hid (appendLists_any (c := 2) ow sp hbw.size (lit_rows2 (k := (n : Int)) (H1.out.1.same HB2.out) H1.out.2 HO2.out.nums HO2.out.room) (by
      have h1 := HL.out
      have h2 := HXL.out
      simp [numsOf]
      omega))
    have HBW := Lib.hid hbw
    clear c0 c1 hb2 ho2 hs1 ow sp hbw
    go_wp2_with fail
    refine KA.out.mono ?_
    rintro e w3 ⟨q3, m3, d3, rfl, ho3, hb3⟩
    have HR : Hid (Made .i64 3 w.heap.size (codeH x) w (.returned (.slice q3 m3 d3)) w3) := Lib.hid ⟨_, _, _, rfl, (ho3.lower HB2.out.size).take_len (by unfold codeH; rw [HL.out]; simp), HB2.out.trans ((HBW.out.trans hb3).mono HB2.out.size)⟩
    clear ho3 hb3
    go_wp2_with fail
    go_ret
    exact HR.out
set_option maxHeartbeats 4000000 in
set_option maxRecDepth 100000 in
theorem answerBytes_any {w : World} {v : Value} {x : Ans} (h : AnsW w v x) : Calls Try.prog 27 #[v] w (Made .i64 3 w.heap.size (ansB x) w) := by
  have KH := Lib.hid (fun (w0 : World) (hb : Below w.heap.size w w0) => isAnswer_any (h.same hb))
  obtain ⟨b, m, d, rfl, h2, h3⟩ := h
  have HB := Lib.hid (alloc_same w (.cells #[.int .i64 x.ver, .slice b m d] 39))
  have hC := heap_alloc_new w (.cells #[.int .i64 x.ver, .slice b m d] 39 (0, 0))
  change (w.alloc (.cells #[.int .i64 x.ver, .slice b m d] 39)).heap[w.heap.size]? = _ at hC
  have hlt : w.heap.size < (w.alloc (.cells #[.int .i64 x.ver, .slice b m d] 39)).heap.size := by simp
  cases hh : isA x with
  | false =>
    rw [hh] at KH
    rw [ansB_no hh]
    clear hC hh h2 h3
    go_enter Try.func27, Try.ntmps27
    go_wp2_with fail
    refine (KH.out _ HB.out).mono ?_
    rintro e w1 ⟨rfl, hb⟩
    have HB1 := Lib.hid (HB.out.trans (hb.mono HB.out.size))
    clear hb
    go_wp2_with fail
    go_ret
    exact ⟨_, _, _, rfl, Own.empty HB1.out.size, HB1.out.alloc HB1.out.size _⟩
  | true =>
    rw [hh] at KH
    rw [ansB_yes hh]
    obtain ⟨hw1, hx1⟩ := isA_parts.1 hh
    have HXL := Lib.hid (encX_few hx1)
    have KE := Lib.hid (fun (w0 : World) (hb : Below w.heap.size w w0) => encodeExts_any (c := d) (h2.same hb))
    unfold EncXT at KE
    rw [hx1, encW_yes hx1] at KE
    clear hh h2 h3 hw1 hx1
    go_enter Try.func27, Try.ntmps27
    go_wp2_with fail
    generalize w.alloc (.cells #[.int .i64 x.ver, .slice b m d] 39) = W0 at *
    refine (KH.out _ HB.out).mono ?_
    rintro e w1 ⟨rfl, hb⟩
    have HB1 := Lib.hid (HB.out.trans (hb.mono HB.out.size))
    have HC1 := Lib.hid ((hb.block w.heap.size hlt).trans hC)
    have hs1 := Nat.lt_of_lt_of_le hlt hb.size
    clear hb hC
    obtain ⟨c0, c1, _, _⟩ := two_cells HC1.out
    go_wp2_with fail
    refine (KE.out w1 HB1.out).mono ?_
    rintro e w2 ⟨q, m2, d2, rfl, ho2, hb2⟩
    have HB2 := Lib.hid (HB1.out.trans (hb2.mono HB1.out.size))
    obtain ⟨e0, e1, _, _⟩ := two_cells ((hb2.block w.heap.size hs1).trans HC1.out)
    have HO2 := Lib.hid ho2
    obtain ⟨ow, sp, hbw⟩ := own_lit (w := w2) x.ver (.cells #[.slice q m2 d2] 24)
    have KA := Lib.hid (appendLists_any (c := 1) ow sp hbw.size (lit_rows1 (k := x.ver) HO2.out.nums HO2.out.room) (by
      have h2 := HXL.out
      simp [numsOf]
      omega))
    have HBW := Lib.hid hbw
    clear c0 c1 hb2 ho2 hs1 ow sp hbw
    go_wp2_with fail
    refine KA.out.mono ?_
    rintro e w3 ⟨q3, m3, d3, rfl, ho3, hb3⟩
    have HR : Hid (Made .i64 3 w.heap.size (codeA x) w (.returned (.slice q3 m3 d3)) w3) := Lib.hid ⟨_, _, _, rfl, (ho3.lower HB2.out.size).take_len (by unfold codeA; simp), HB2.out.trans ((HBW.out.trans hb3).mono HB2.out.size)⟩
    clear ho3 hb3
    go_wp2_with fail
    go_ret
    exact HR.out
end Go.Proofs.Ytcpnchjgklemgaa
namespace Go.Proofs.Ytcpnchjgklemgaa
open Go.ChangeShapes Go.WideShapes Go.ChangeAt Go.RowKit
set_option linter.unusedVariables false
set_option linter.unusedSimpArgs false

theorem nums_pair (w : World) (x z : Int) (t : TypeId) : Nums .i64 (w.alloc (.cells #[.int .i64 x, .int .i64 z] t)) (some ⟨w.heap.size, 0, none⟩) 2 [x, z] :=
  ⟨rfl, by omega, fun j hj => by
    have h0 := heap_alloc_new w (.cells #[.int .i64 x, .int .i64 z] t)
    refine ⟨_, rfl, ?_⟩
    rw [addr_zero, block_cell h0]
    rcases (show j = 0 ∨ j = 1 by omega) with rfl | rfl <;> rfl⟩
theorem own_oneE (w : World) (x : Int) (t : TypeId) : Own .i64 t (w.alloc (.cells #[.int .i64 x] t)) w.heap.size (some ⟨w.heap.size, 0, none⟩) 1 1 [x] :=
  ⟨rfl, World.ownsRow_lit w #[.int .i64 x] 1 (Nat.le_refl _) (by unfold maxLen; omega) rfl⟩
set_option maxHeartbeats 4000000 in
set_option maxRecDepth 100000 in
theorem specEncodeExts_any {a : Option Addr} {n c : Nat} {l : List Vl} {w : World} (h : Vals w a n l) :
    Calls Try.prog 83 #[.slice a n c] w (EncXT 3 l w) := by
  have H := Lib.hid h
  have hln := Lib.hid h.len
  have hfit := h.fits
  obtain ⟨i0, hi, hz0, hz1, hz2⟩ := info_parts infoIntS
  have HI := Lib.hid (And.intro hi (And.intro hz0 (And.intro hz1 hz2)))
  clear hi hz0 hz1 hz2 h
  have HA := Lib.hid (specAreExts_any (c := c) H.out)
  unfold EncXT
  cases har : areX l with
  | false =>
    rw [har] at HA
    rw [encW_no har]
    clear har
    go_enter Try.func83, Try.ntmps83
    go_wp2_with fail
    refine HA.out.mono ?_
    rintro e w1 ⟨rfl, rfl⟩
    go_wp2_with fail
    go_ret2
    exact ⟨_, _, _, rfl, Own.empty (Nat.le_refl _), alloc_same _ _⟩
  | true =>
    rw [har] at HA
    rw [encW_yes har]
    obtain ⟨hn6, hit⟩ := areX_few har
    rw [hln.out] at hn6
    clear har
    have HO2 : Hid (Own .i64 3 (w.alloc (.cells #[.int .i64 (n : Int)] 3)) w.heap.size (some ⟨w.heap.size, 0, none⟩) 1 1 ((n : Int) :: codesX (l.take 0))) := Lib.hid (own_oneE w n 3)
    go_enter Try.func83, Try.ntmps83
    go_wp2_with fail
    refine HA.out.mono ?_
    rintro e w1 ⟨rfl, rfl⟩
    go_wp2_with fail
    go_loopw [4, 5] (fun v i wr => ∃ (j : Nat) (q : Option Addr) (r e : Nat), j ≤ n ∧ i = .int .i64 j ∧ v = .slice q r e ∧ Own .i64 3 wr w.heap.size q r e ((n : Int) :: codesX (l.take j)) ∧ Below w.heap.size w wr) (fun _ i _ => n - (intOf i).toNat)
    case atStart => exact ⟨0, _, _, _, Nat.zero_le _, rfl, rfl, HO2.out, alloc_same _ _⟩
    case round =>
      obtain ⟨j, q, r, e, hj, rfl, rfl, hown, hb⟩ := hrel
      have HOr := Lib.hid hown
      have HBr := Lib.hid hb
      clear hown hb
      by_cases hlt : j < n
      · obtain ⟨bb, o, p, pm, pd, k, y, rfl, hx, hd0, hd1, hN, hr⟩ := H.out.at_ hlt
        have hsz := HBr.out.size
        have hym := hN.len
        have hyi := itemsOf_mem hx
        dsimp only at hyi
        have hpm : pm ≤ 24 := by omega
        have hrl : r ≤ 37 := by
          have h1 := HOr.out.len
          have h2 := itemsOf_le l j
          rw [List.length_cons, codesX_len, List.length_take] at h1
          omega
        have HX : Hid ((n : Int) :: codesX (l.take (j + 1)) = (n : Int) :: (codesX (l.take j) ++ k :: (pm : Int) :: y)) := Lib.hid (by rw [codesX_take hx]; simp [codeX, hym])
        have HSK : Hid (∀ w9, Below w.heap.size w w9 → w9.cell? ⟨bb, o + j * 2, none⟩ = some (.int .i64 k) ∧ w9.cell? ⟨bb, o + j * 2 + 1, none⟩ = some (.slice p pm pd)) := Lib.hid (fun w9 h9 => ⟨cell_stay hd0 h9, cell_stay hd1 h9⟩)
        obtain ⟨hc0, hc1⟩ := HSK.out wr HBr.out
        have HN := Lib.hid (fun w9 (h9 : Below w.heap.size w w9) => hN.same h9)
        clear hx hN hym hyi hd0 hd1
        have HBd : Hid (Below w.heap.size w wr.drew) := Lib.hid HBr.out.drew
        have HQ : Hid (Below wr.heap.size wr (wr.alloc (.cells #[.int .i64 k, .int .i64 (pm : Int)] 3)).drew) := Lib.hid (alloc_same _ _).drew
        have HOQ : Hid (Own .i64 3 (wr.alloc (.cells #[.int .i64 k, .int .i64 (pm : Int)] 3)).drew w.heap.size q r e ((n : Int) :: codesX (l.take j))) := Lib.hid (HOr.out.same HQ.out)
        have HNQ : Hid (Nums .i64 (wr.alloc (.cells #[.int .i64 k, .int .i64 (pm : Int)] 3)).drew (some ⟨wr.heap.size, 0, none⟩) 2 [k, (pm : Int)]) := Lib.hid ((nums_pair _ _ _ _).same (Below.refl _ _).drew)
        have HBQ : Hid (Below w.heap.size w (wr.alloc (.cells #[.int .i64 k, .int .i64 (pm : Int)] 3)).drew) := Lib.hid (HBr.out.trans (HQ.out.mono hsz))
        have hsQ : w.heap.size ≤ (wr.alloc (.cells #[.int .i64 k, .int .i64 (pm : Int)] 3)).drew.heap.size := HBQ.out.size
        go_wp2_with fail
        go_region_held3 (fun w9 => w9.cell? ⟨bb, o + j * 2, none⟩ = some (.int .i64 k) ∧ w9.cell? ⟨bb, o + j * 2 + 1, none⟩ = some (.slice p pm pd)) (first | exact HSK.out _ HBd.out | exact HSK.out _ HBQ.out | exact HSK.out _ HB3.out) ((first | (refine step_app_g _ (by rfl) (.tmp 19) (.tmp 31) 24 (by rfl) .i64 3 i0 (.int .i64 0) 8 Try.underlying24 HI.out.1 HI.out.2.1 HI.out.2.2.1 HI.out.2.2.2 rfl (by rfl) HOQ.out (by rfl) HNQ.out (by omega) (by omega) hsQ ?_; intro a3 c3 w3 ho3 hg3 hl3; have HO3 := Lib.hid ho3; have HB3 : Hid (Below w.heap.size w w3) := Lib.hid (grown_to hg3 HBQ.out HOQ.out.span (Nat.le_refl _) hsQ); have hs3 : w.heap.size ≤ w3.heap.size := HB3.out.size; obtain ⟨he0, he1⟩ := HSK.out w3 HB3.out; clear ho3 hg3 hl3)))
        go_wp2_with (at_builtin; refine wpl_app _ rfl (.tmp 33) (.tmp 38) 24 rfl .i64 3 i0 (.int .i64 0) 8 Try.underlying24 HI.out.1 HI.out.2.1 HI.out.2.2.1 HI.out.2.2.2 rfl rfl HO3.out rfl (HN.out _ HB3.out) (by omega) ?c1 ?c2 ?_)
        case c1 => omega
        case c2 => exact hs3
        intro a4 c4 w4 ho4 hb4
        have HO4 := Lib.hid ho4
        have HB4 : Hid (Below w.heap.size w w4) := Lib.hid (HB3.out.trans hb4)
        clear ho4 hb4
        go_wp2_with fail
        go_roundw
        case rel => exact ⟨j + 1, a4, _, c4, by omega, by go_num, rfl, by rw [HX.out]; exact HO4.out, HB4.out⟩
        case measure => simp [intOf]; omega
      · obtain rfl : j = n := by omega
        go_wp2_with fail
        go_ret2
        have h1 := HOr.out
        rw [List.take_of_length_le (by rw [hln.out]; omega)] at h1
        refine ⟨_, _, _, rfl, h1.take_len ?_, HBr.out⟩
        unfold encX
        rw [hln.out]
end Go.Proofs.Ytcpnchjgklemgaa
namespace Go.Proofs.Ytcpnchjgklemgaa
open Go.ChangeShapes Go.WideShapes Go.ChangeAt Go.RowKit
set_option linter.unusedVariables false
set_option linter.unusedSimpArgs false

set_option maxHeartbeats 4000000 in
set_option maxRecDepth 100000 in
theorem specHelloBytes_any {w : World} {v : Value} {x : Hel} (h : HelW w v x) : Calls Try.prog 36 #[v] w (Made .i64 3 w.heap.size (helB x) w) := by
  obtain ⟨i0, hi, hz0, hz1, hz2⟩ := info_parts infoIntS
  have HI := Lib.hid (And.intro hi (And.intro hz0 (And.intro hz1 hz2)))
  clear hi hz0 hz1 hz2
  have KH := Lib.hid (fun (w0 : World) (hb : Below w.heap.size w w0) => specIsHello_any (h.same hb))
  obtain ⟨a, n, c, b, m, d, rfl, h1, h2, h3⟩ := h
  have HB := Lib.hid (alloc_same w (.cells #[.slice a n c, .slice b m d] 27))
  have hC := heap_alloc_new w (.cells #[.slice a n c, .slice b m d] 27 (0, 0))
  change (w.alloc (.cells #[.slice a n c, .slice b m d] 27)).heap[w.heap.size]? = _ at hC
  have hlt : w.heap.size < (w.alloc (.cells #[.slice a n c, .slice b m d] 27)).heap.size := by simp
  cases hh : isH x with
  | false =>
    rw [hh] at KH
    rw [helB_no hh]
    clear hC hh h1 h2 h3
    go_enter Try.func36, Try.ntmps36
    go_wp2_with fail
    refine (KH.out _ HB.out).mono ?_
    rintro e w1 ⟨rfl, hb⟩
    have HB1 := Lib.hid (HB.out.trans (hb.mono HB.out.size))
    clear hb
    go_wp2_with fail
    go_ret
    exact ⟨_, _, _, rfl, Own.empty HB1.out.size, HB1.out.alloc HB1.out.size _⟩
  | true =>
    rw [hh] at KH
    rw [helB_yes hh]
    obtain ⟨hw1, hx1⟩ := isH_parts.1 hh
    have hvl := (areV_len hw1).1
    have HL := Lib.hid h1.len
    have HXL := Lib.hid (encX_few hx1)
    have H1 := Lib.hid (And.intro h1 h3.1)
    have KE := Lib.hid (fun (w0 : World) (hb : Below w.heap.size w w0) => specEncodeExts_any (c := d) (h2.same hb))
    unfold EncXT at KE
    rw [hx1, encW_yes hx1] at KE
    clear hh h1 h2 h3 hw1 hx1
    go_enter Try.func36, Try.ntmps36
    go_wp2_with fail
    generalize w.alloc (.cells #[.slice a n c, .slice b m d] 27) = W0 at *
    refine (KH.out _ HB.out).mono ?_
    rintro e w1 ⟨rfl, hb⟩
    have HB1 := Lib.hid (HB.out.trans (hb.mono HB.out.size))
    have HC1 := Lib.hid ((hb.block w.heap.size hlt).trans hC)
    have hs1 := Nat.lt_of_lt_of_le hlt hb.size
    clear hb hC
    obtain ⟨c0, c1, _, _⟩ := two_cells HC1.out
    go_wp2_with fail
    refine (KE.out w1 HB1.out).mono ?_
    rintro e w2 ⟨q, m2, d2, rfl, ho2, hb2⟩
    have HB2 := Lib.hid (HB1.out.trans (hb2.mono HB1.out.size))
    obtain ⟨e0, e1, _, _⟩ := two_cells ((hb2.block w.heap.size hs1).trans HC1.out)
    have HO2 := Lib.hid ho2
    have e2 := cell_stay e0 (alloc_same w2 (.cells #[.int .i64 (n : Int)] 3))
    have HOW : Hid (Own .i64 3 (w2.alloc (.cells #[.int .i64 (n : Int)] 3)) w2.heap.size (some ⟨w2.heap.size, 0, none⟩) 1 1 [(n : Int)]) := Lib.hid ⟨rfl, World.ownsRow_lit w2 #[.int .i64 (n : Int)] 1 (Nat.le_refl _) (by unfold maxLen; omega) rfl⟩
    have HAL := Lib.hid (alloc_same w2 (.cells #[.int .i64 (n : Int)] 3))
    have g0 := cell_stay e0 HAL.out
    have hnn := HL.out
    have hmm := HXL.out
    have hm2 := HO2.out.len
    have HV : Hid (∀ w9, Below w2.heap.size w2 w9 → Nums .i64 w9 a n x.vers) := Lib.hid (fun w9 h9 => H1.out.1.same (HB2.out.trans (h9.mono HB2.out.size)))
    have HQ : Hid (∀ w9, Below w2.heap.size w2 w9 → Nums .i64 w9 q m2 (encX x.exts)) := Lib.hid (fun w9 h9 => HO2.out.nums.same h9)
    have hs3 : w2.heap.size ≤ (w2.alloc (.cells #[.int .i64 (n : Int)] 3)).heap.size := by simp
    clear c0 c1 hb2 ho2 hs1
    go_wp2_with (at_builtin; refine wpl_app _ rfl (.tmp 18) (.tmp 20) 24 rfl .i64 3 i0 (.int .i64 0) 8 Try.underlying24 HI.out.1 HI.out.2.1 HI.out.2.2.1 HI.out.2.2.2 rfl rfl HOW.out rfl (HV.out _ HAL.out) (by omega) ?c1 ?c2 ?_)
    case c1 => omega
    case c2 => exact hs3
    intro a3 c3 w3 ho3 hb3
    have HO3 := Lib.hid ho3
    have HB3 := Lib.hid (HAL.out.trans hb3)
    clear ho3 hb3
    go_wp2_with (at_builtin; refine wpl_app _ rfl (.tmp 21) (.tmp 22) 24 rfl .i64 3 i0 (.int .i64 0) 8 Try.underlying24 HI.out.1 HI.out.2.1 HI.out.2.2.1 HI.out.2.2.2 rfl rfl HO3.out rfl (HQ.out _ HB3.out) (by omega) ?d1 ?d2 ?_)
    case d1 => omega
    case d2 => exact HB3.out.size
    intro a4 c4 w4 ho4 hb4
    have HR : Hid (Made .i64 3 w.heap.size (codeH x) w (.returned (.slice a4 (1 + n + m2) c4)) w4) := Lib.hid ⟨_, _, _, rfl, (ho4.lower HB2.out.size).take_len (by unfold codeH; rw [HL.out]), HB2.out.trans ((HB3.out.trans hb4).mono HB2.out.size)⟩
    clear ho4 hb4
    go_wp2_with fail
    go_ret
    exact HR.out
set_option maxHeartbeats 4000000 in
set_option maxRecDepth 100000 in
theorem specAnswerBytes_any {w : World} {v : Value} {x : Ans} (h : AnsW w v x) : Calls Try.prog 44 #[v] w (Made .i64 3 w.heap.size (ansB x) w) := by
  obtain ⟨i0, hi, hz0, hz1, hz2⟩ := info_parts infoIntS
  have HI := Lib.hid (And.intro hi (And.intro hz0 (And.intro hz1 hz2)))
  clear hi hz0 hz1 hz2
  have KH := Lib.hid (fun (w0 : World) (hb : Below w.heap.size w w0) => specIsAnswer_any (h.same hb))
  obtain ⟨b, m, d, rfl, h2, h3⟩ := h
  have HB := Lib.hid (alloc_same w (.cells #[.int .i64 x.ver, .slice b m d] 39))
  have hC := heap_alloc_new w (.cells #[.int .i64 x.ver, .slice b m d] 39 (0, 0))
  change (w.alloc (.cells #[.int .i64 x.ver, .slice b m d] 39)).heap[w.heap.size]? = _ at hC
  have hlt : w.heap.size < (w.alloc (.cells #[.int .i64 x.ver, .slice b m d] 39)).heap.size := by simp
  cases hh : isA x with
  | false =>
    rw [hh] at KH
    rw [ansB_no hh]
    clear hC hh h2 h3
    go_enter Try.func44, Try.ntmps44
    go_wp2_with fail
    refine (KH.out _ HB.out).mono ?_
    rintro e w1 ⟨rfl, hb⟩
    have HB1 := Lib.hid (HB.out.trans (hb.mono HB.out.size))
    clear hb
    go_wp2_with fail
    go_ret
    exact ⟨_, _, _, rfl, Own.empty HB1.out.size, HB1.out.alloc HB1.out.size _⟩
  | true =>
    rw [hh] at KH
    rw [ansB_yes hh]
    obtain ⟨hw1, hx1⟩ := isA_parts.1 hh
    have HXL := Lib.hid (encX_few hx1)
    have KE := Lib.hid (fun (w0 : World) (hb : Below w.heap.size w w0) => specEncodeExts_any (c := d) (h2.same hb))
    unfold EncXT at KE
    rw [hx1, encW_yes hx1] at KE
    clear hh h2 h3 hw1 hx1
    go_enter Try.func44, Try.ntmps44
    go_wp2_with fail
    generalize w.alloc (.cells #[.int .i64 x.ver, .slice b m d] 39) = W0 at *
    refine (KH.out _ HB.out).mono ?_
    rintro e w1 ⟨rfl, hb⟩
    have HB1 := Lib.hid (HB.out.trans (hb.mono HB.out.size))
    have HC1 := Lib.hid ((hb.block w.heap.size hlt).trans hC)
    have hs1 := Nat.lt_of_lt_of_le hlt hb.size
    clear hb hC
    obtain ⟨c0, c1, _, _⟩ := two_cells HC1.out
    go_wp2_with fail
    refine (KE.out w1 HB1.out).mono ?_
    rintro e w2 ⟨q, m2, d2, rfl, ho2, hb2⟩
    have HB2 := Lib.hid (HB1.out.trans (hb2.mono HB1.out.size))
    obtain ⟨e0, e1, _, _⟩ := two_cells ((hb2.block w.heap.size hs1).trans HC1.out)
    have HO2 := Lib.hid ho2
    have HOW : Hid (Own .i64 3 (w2.alloc (.cells #[.int .i64 x.ver] 3)) w2.heap.size (some ⟨w2.heap.size, 0, none⟩) 1 1 [x.ver]) := Lib.hid ⟨rfl, World.ownsRow_lit w2 #[.int .i64 x.ver] 1 (Nat.le_refl _) (by unfold maxLen; omega) rfl⟩
    have HAL := Lib.hid (alloc_same w2 (.cells #[.int .i64 x.ver] 3))
    have hmm := HXL.out
    have hm2 := HO2.out.len
    have HQ : Hid (∀ w9, Below w2.heap.size w2 w9 → Nums .i64 w9 q m2 (encX x.exts)) := Lib.hid (fun w9 h9 => HO2.out.nums.same h9)
    have hs3 : w2.heap.size ≤ (w2.alloc (.cells #[.int .i64 x.ver] 3)).heap.size := by simp
    clear c0 c1 hb2 ho2 hs1
    go_wp2_with (at_builtin; refine wpl_app _ rfl (.tmp 17) (.tmp 18) 24 rfl .i64 3 i0 (.int .i64 0) 8 Try.underlying24 HI.out.1 HI.out.2.1 HI.out.2.2.1 HI.out.2.2.2 rfl rfl HOW.out rfl (HQ.out _ HAL.out) (by omega) ?c1 ?c2 ?_)
    case c1 => omega
    case c2 => exact hs3
    intro a3 c3 w3 ho3 hb3
    have HR : Hid (Made .i64 3 w.heap.size (codeA x) w (.returned (.slice a3 (1 + m2) c3)) w3) := Lib.hid ⟨_, _, _, rfl, (ho3.lower HB2.out.size).take_len (by unfold codeA; simp), HB2.out.trans ((HAL.out.trans hb3).mono HB2.out.size)⟩
    clear ho3 hb3
    go_wp2_with fail
    go_ret
    exact HR.out
end Go.Proofs.Ytcpnchjgklemgaa
namespace Go.Proofs.Ytcpnchjgklemgaa
open Go.ChangeShapes Go.WideShapes Go.ChangeAt Go.RowKit
set_option linter.unusedVariables false
set_option linter.unusedSimpArgs false

/-- What is left by a function that draws a hello. -/
def DrawnH (w : World) (e : Ending) (w' : World) : Prop := ∃ (v : Value) (x : Hel), e = .returned v ∧ OwnHel w'.heap.size w' w.heap.size v x ∧ Below w.heap.size w w'
theorem put_hel {S : Nat} {w W : World} {p q : Option Addr} {k r m d : Nat} {x : Hel} (hb : Below w.heap.size w W) (h : OwnHel S W (w.heap.size + 1) (.agg #[.slice p k r, .slice q m d]) x) :
    OwnHel ((W.setCell ⟨w.heap.size, 0, none⟩ (.slice p k r)).setCell ⟨w.heap.size, 1, none⟩ (.slice q m d)).heap.size ((W.setCell ⟨w.heap.size, 0, none⟩ (.slice p k r)).setCell ⟨w.heap.size, 1, none⟩ (.slice q m d)) w.heap.size (.agg #[.slice p k r, .slice q m d]) x ∧
    Below w.heap.size w ((W.setCell ⟨w.heap.size, 0, none⟩ (.slice p k r)).setCell ⟨w.heap.size, 1, none⟩ (.slice q m d)) := by
  have hS : S ≤ W.heap.size := by obtain ⟨_, _, _, _, _, _, _, _, _, _, _, _, _, _, _, _, _, h9⟩ := h; exact h9
  have hi := set_pair_inside W w.heap.size (.slice p k r) (.slice q m d)
  exact ⟨((h.aside hi (Or.inl (Nat.le_refl _))).lower (by omega)).top (by simpa using hS) (Nat.le_refl _), hi.to hb (Nat.le_refl _) hb.size⟩
set_option maxHeartbeats 2000000 in
set_option maxRecDepth 100000 in
theorem drawIsHello_any (a : Option Addr) (n c : Nat) (w : World) (hC : Code w a n) : Calls Try.prog 50 #[.slice a n c] w (DrawnH w) := by
  have hb0 := alloc_same w (.cells #[.slice none 0 0, .slice none 0 0] 27)
  have HC := Lib.hid (hC.same hb0)
  have HB0 := Lib.hid hb0
  have hM : (w.alloc (.cells #[.slice none 0 0, .slice none 0 0] 27)).heap[w.heap.size]? = some (.cells #[.slice none 0 0, .slice none 0 0] 27 (0, 0)) := heap_alloc_new w _
  have hsz : w.heap.size + 1 = (w.alloc (.cells #[.slice none 0 0, .slice none 0 0] 27)).heap.size := by simp
  clear hC hb0
  unfold DrawnH
  go_enter Try.func50, Try.ntmps50
  go_wp2_with fail
  generalize (w.alloc (.cells #[.slice none 0 0, .slice none 0 0] 27)) = W0 at *
  refine (new_any a n c HC.out.2 W0 HC.out.1).mono ?_
  rintro e w1 ⟨rfl, hcu, hb1⟩
  have hM1 := (hb1.block w.heap.size (by omega)).trans hM
  have hs1 := hb1.size
  have HB1 := Lib.hid (HB0.out.trans (hb1.mono HB0.out.size))
  have hbl := hcu.lt
  have KA := l17Any_any W0.heap.size a n c w1 hcu
  unfold DrewH at KA
  have HKA := Lib.hid KA
  clear hcu hb1 hM KA
  go_wp2_with fail
  refine HKA.out.mono ?_
  rintro e w2 ⟨v, x, rfl, ho, -, hd⟩
  have hs2 := hd.2.size
  have hM2 := (hd.2.block w.heap.size (by omega) (by omega)).trans hM1
  have HB2 := Lib.hid (HB1.out.trans (hd.2.below (B := w.heap.size) (by omega) (by omega)))
  have HO2 := Lib.hid (ho.lower (B' := w.heap.size + 1) (by omega))
  obtain ⟨p, k, r, q, m, d, rfl⟩ := ho.shape
  obtain ⟨m0, m1, g0, g1⟩ := two_cells hM2
  obtain ⟨z0, z1, hZ⟩ := two_put hM2 (.slice p k r) (.slice q m d)
  clear ho hd hM1 hM2 hZ
  go_wp2_with fail
  (try simp only [Exit.inBlock, Exit.then])
  refine bodyPost_ret (by simp [results, Try.results50, go_sem, z0, z1]; try rfl) rfl ?_
  have hfin := put_hel HB2.out HO2.out
  exact ⟨_, _, rfl, hfin.1, hfin.2⟩
set_option maxHeartbeats 2000000 in
set_option maxRecDepth 100000 in
theorem drawHelloBytes_any (a : Option Addr) (n c : Nat) (w : World) (hC : Code w a n) : Calls Try.prog 13 #[.slice a n c] w (DrawnH w) := by
  have hb0 := alloc_same w (.cells #[.slice none 0 0, .slice none 0 0] 27)
  have KA := Lib.hid (drawIsHello_any a n c _ (hC.same hb0))
  have HB0 := Lib.hid hb0
  have hM : (w.alloc (.cells #[.slice none 0 0, .slice none 0 0] 27)).heap[w.heap.size]? = some (.cells #[.slice none 0 0, .slice none 0 0] 27 (0, 0)) := heap_alloc_new w _
  have hsz : w.heap.size + 1 = (w.alloc (.cells #[.slice none 0 0, .slice none 0 0] 27)).heap.size := by simp
  unfold DrawnH at KA
  clear hC hb0
  unfold DrawnH
  go_enter Try.func13, Try.ntmps13
  go_wp2_with fail
  generalize (w.alloc (.cells #[.slice none 0 0, .slice none 0 0] 27)) = W0 at *
  refine KA.out.mono ?_
  rintro e w2 ⟨v, x, rfl, ho, hb⟩
  have hs2 := hb.size
  have hM2 := (hb.block w.heap.size (by omega)).trans hM
  have HB2 := Lib.hid (HB0.out.trans (hb.mono HB0.out.size))
  have HO2 := Lib.hid (ho.lower (B' := w.heap.size + 1) (by omega))
  obtain ⟨p, k, r, q, m, d, rfl⟩ := ho.shape
  obtain ⟨m0, m1, g0, g1⟩ := two_cells hM2
  obtain ⟨z0, z1, hZ⟩ := two_put hM2 (.slice p k r) (.slice q m d)
  clear ho hb hM hM2 hZ KA
  go_wp2_with fail
  (try simp only [Exit.inBlock, Exit.then])
  refine bodyPost_ret (by simp [results, Try.results13, go_sem, z0, z1]; try rfl) rfl ?_
  have hfin := put_hel HB2.out HO2.out
  exact ⟨_, _, rfl, hfin.1, hfin.2⟩
set_option maxHeartbeats 4000000 in
set_option maxRecDepth 100000 in
theorem drawReadHello_any (a : Option Addr) (n c : Nat) (w : World) (hC : Code w a n) :
    Calls Try.prog 19 #[.slice a n c] w fun e w' => ∃ (q : Option Addr) (m d : Nat) (y : List Int), e = .returned (.slice q m d) ∧ Own .i64 3 w' w.heap.size q m d y ∧ m ≤ 60 ∧ Below w.heap.size w w' := by
  have HC := Lib.hid hC
  clear hC
  obtain ⟨i0, hi, hz0, hz1, hz2⟩ := info_parts infoIntS
  have HI := Lib.hid (And.intro hi (And.intro hz0 (And.intro hz1 hz2)))
  clear hi hz0 hz1 hz2
  go_enter Try.func19, Try.ntmps19
  go_wp2_with fail
  refine (new_any a n c HC.out.2 w HC.out.1).mono ?_
  rintro e w1 ⟨rfl, hcu, hb1⟩
  have HCU := Lib.hid hcu
  have HB1 := Lib.hid hb1
  have hs1 := hb1.size
  have hb := hcu.lt
  obtain ⟨b, hbe⟩ : ∃ b, b = w.heap.size := ⟨_, rfl⟩
  have HBE := Lib.hid hbe
  rw [← hbe] at HCU hb ⊢
  clear hcu hb1 hbe
  have hfin : Hid (∀ w9, Drawn b a n c w1 w9 → Below w.heap.size w w9) := Lib.hid (fun w9 h9 => HB1.out.trans (h9.below (by rw [HBE.out]; exact Nat.le_refl _) hs1))
  go_wp2_with fail
  have KD := l17Draw_any b a n c w1 HCU.out
  unfold DrewH at KD
  refine KD.mono ?_
  rintro e w2 ⟨v, x, rfl, ho, hx, hd2⟩
  have HD2 := Lib.hid hd2
  have hs2 := hd2.2.size
  have KE := Lib.hid (specHelloBytes_any ho.hel)
  rw [helB_yes hx] at KE
  have hfew := codeH_few hx
  have hpos : 1 ≤ (codeH x).length := by simp [codeH]
  obtain ⟨y, hy⟩ : ∃ y, y = codeH x := ⟨_, rfl⟩
  rw [← hy] at KE hfew hpos
  clear ho hx hd2 hy KD
  go_wp2_with fail
  refine KE.out.mono ?_
  rintro e w3 ⟨a2, n2, c2, rfl, ho3, hb3⟩
  have hn2 : n2 = y.length := ho3.len.symm
  have hn2a : n2 ≤ 50 := by omega
  have hn0 : 0 < n2 := by omega
  have HO3 := Lib.hid (ho3.lower hs2)
  have HD3 := Lib.hid (HD2.out.same hb3)
  clear ho3 hb3 hn2 KE hfew hpos
  go_wp2_with fail
  refine (below_any b a n c 7 (by omega) (by omega) _ HD3.out.1).mono ?_
  rintro e w4 ⟨x, hx0, hx1, rfl, hd4⟩
  have HO4 := Lib.hid (HO3.out.only hd4.2 HO3.out.span (Or.inl hb))
  have HD4 := Lib.hid (HD3.out.trans hd4)
  have hs4 := HD4.out.2.size
  have hrm := HO4.out.room
  clear hd4
  by_cases q0 : x = 0
  · have b0 : (x == 0) = true := by simpa using q0
    clear q0
    go_wp2_with fail
    refine (below_any b a n c 3 (by omega) (by omega) _ HD4.out.1).mono ?_
    rintro e w5 ⟨z, hz0, hz1, rfl, hd5⟩
    have HO5 := Lib.hid (HO4.out.only hd5.2 HO4.out.span (Or.inl hb))
    have HD5 := Lib.hid (HD4.out.trans hd5)
    have hs5 := HD5.out.2.size
    clear hd5
    go_wp2_with (at_builtin; refine wpl_app _ rfl (.tmp 14) (.tmp 17) 24 rfl .i64 3 i0 (.int .i64 0) 8 Try.underlying24 HI.out.1 HI.out.2.1 HI.out.2.2.1 HI.out.2.2.2 rfl rfl (HO5.out.alloc _) rfl (nums_new _ _ _ _) (by omega) ?c1 ?c2 ?_)
    case c1 => omega
    case c2 => simp; omega
    intro a6 c6 w6 ho6 hb6
    have HO6 := Lib.hid ho6
    have HB6 : Hid (Below w.heap.size w w6) := Lib.hid (hfin.out _ (HD5.out.under HCU.out (((alloc_same _ _).mono hs5).trans hb6) (Nat.le_refl _)))
    clear ho6 hb6
    go_wp2_with fail
    go_ret
    exact ⟨_, _, _, _, rfl, HO6.out.lower hs1, by omega, HB6.out⟩
  have b0 : (x == 0) = false := by simpa using q0
  by_cases q1 : x = 1
  · have b1 : (x == 1) = true := by simpa using q1
    clear q0 q1
    have hni : (0 : Int) < (n2 : Int) := by omega
    obtain ⟨g, rfl, hg0, hg1⟩ := HO4.out.head hn0
    have HO5 := Lib.hid (HO4.out.cut (m := n2 - 1) (by omega) hn0)
    go_wp2_with fail
    go_ret
    exact ⟨_, n2 - 1, _, _, rfl, HO5.out.lower hs1, by omega, hfin.out _ HD4.out⟩
  have b1 : (x == 1) = false := by simpa using q1
  by_cases q2 : x = 2
  · have b2 : (x == 2) = true := by simpa using q2
    clear q0 q1 q2
    have hni : (0 : Int) < (n2 : Int) := by omega
    obtain ⟨g, rfl, hg0, hg1⟩ := HO4.out.head hn0
    go_wp2_with fail
    refine (below_any b a n c (n2 : Int) (by omega) (by omega) _ HD4.out.1).mono ?_
    rintro e w5 ⟨z, hz0, hz1, rfl, hd5⟩
    obtain ⟨k, rfl⟩ : ∃ k : Nat, z = k := ⟨z.toNat, by omega⟩
    have HO5 := Lib.hid (HO4.out.only hd5.2 HO4.out.span (Or.inl hb))
    have HD5 := Lib.hid (HD4.out.trans hd5)
    clear hd5
    go_wp2_with fail
    refine (pickNew b a n c [0, 1, 2, 9, 255, 256, -1, 9223372036854775807] 8 (by omega) (by omega) rfl rfl w5 HD5.out.1).mono ?_
    rintro e w6 ⟨z, hz, rfl, hd6⟩
    have HO6 := Lib.hid (HO5.out.only hd6.2 HO5.out.span (Or.inl hb))
    have HD6 := Lib.hid (HD5.out.trans hd6)
    have hf := HO6.out.2.frozenAt k
    obtain ⟨u, hu⟩ : ∃ u, w6.cell? ⟨g, k, none⟩ = some u := by
      rw [HO6.out.2.cellAt k (by omega)]
      exact ⟨_, List.getElem?_eq_getElem (by rw [HO6.out.2.1]; omega)⟩
    have hst := HO6.out.2.stored k (.int .i64 z)
    rw [← List.map_set] at hst
    have HO7 : Hid (Own .i64 3 (w6.setCell ⟨g, k, none⟩ (.int .i64 z)) w1.heap.size (some ⟨g, 0, none⟩) n2 c2 (y.set k z)) := Lib.hid ⟨by rw [List.length_set]; exact HO6.out.1, hst.1⟩
    have HB7 := Lib.hid (hfin.out _ (HD6.out.1.far hst.2 (by omega) HCU.out HD6.out hg0))
    clear hst hd6 hz
    go_wp2_with fail
    go_ret
    exact ⟨_, _, _, _, rfl, HO7.out.lower hs1, by omega, HB7.out⟩
  have b2 : (x == 2) = false := by simpa using q2
  clear q0 q1 q2
  go_wp2_with fail
  go_ret
  exact ⟨_, _, _, _, rfl, HO4.out.lower hs1, by omega, hfin.out _ HD4.out⟩
set_option maxHeartbeats 4000000 in
set_option maxRecDepth 100000 in
theorem drawChooseAnswer_any (a : Option Addr) (n c : Nat) (w : World) (hC : Code w a n) :
    Calls Try.prog 21 #[.slice a n c] w fun e w' => ∃ (p : Option Addr) (k r : Nat) (vs : List Int) (q : Option Addr) (m d : Nat) (ts : List Int) (v : Value) (x : Hel), e = .returned (.tuple #[.slice p k r, .slice q m d, v]) ∧
      Nums .i64 w' p k vs ∧ k ≤ 6 ∧ Nums .i64 w' q m ts ∧ m ≤ 4 ∧ (∀ z ∈ ts, (Lit.int .i64 z).wf = true) ∧ HelW w' v x ∧ Below w.heap.size w w' := by
  have hb0 := alloc_same w (.cells #[.slice none 0 0, .slice none 0 0] 27)
  have HC := Lib.hid (hC.same hb0)
  have HB0 := Lib.hid hb0
  have hM : (w.alloc (.cells #[.slice none 0 0, .slice none 0 0] 27)).heap[w.heap.size]? = some (.cells #[.slice none 0 0, .slice none 0 0] 27 (0, 0)) := heap_alloc_new w _
  have hsz : w.heap.size + 1 = (w.alloc (.cells #[.slice none 0 0, .slice none 0 0] 27)).heap.size := by simp
  clear hC hb0
  go_enter Try.func21, Try.ntmps21
  go_wp2_with fail
  generalize (w.alloc (.cells #[.slice none 0 0, .slice none 0 0] 27)) = W0 at *
  refine (new_any a n c HC.out.2 W0 HC.out.1).mono ?_
  rintro e w1 ⟨rfl, hcu, hb1⟩
  have hM1 := (hb1.block w.heap.size (by omega)).trans hM
  have hs1 := hb1.size
  have HB1 := Lib.hid (HB0.out.trans (hb1.mono HB0.out.size))
  have hbl := hcu.lt
  have KV := l12Any_any W0.heap.size a n c w1 hcu
  unfold DrewL at KV
  have HKV := Lib.hid KV
  clear hcu hb1 hM KV
  go_wp2_with fail
  refine HKV.out.mono ?_
  rintro e w2 ⟨p, k, r, vs, rfl, ho2, hk6, -, hd2⟩
  have hs2 := hd2.2.size
  have hM2 := (hd2.2.block w.heap.size (by omega) (by omega)).trans hM1
  have HB2 := Lib.hid (HB1.out.trans (hd2.2.below (B := w.heap.size) (by omega) (by omega)))
  have HO2 := Lib.hid ho2
  have HS2 := Lib.hid ho2.span
  have KT := l17Tags_any W0.heap.size a n c w2 hd2.1
  unfold DrewT at KT
  have HKT := Lib.hid KT
  clear ho2 hd2 hM1 KT HKV
  go_wp2_with fail
  refine HKT.out.mono ?_
  rintro e w3 ⟨q, m, d, ts, rfl, ho3, hm4, hts, hd3⟩
  have hs3 := hd3.2.size
  have hM3 := (hd3.2.block w.heap.size (by omega) (by omega)).trans hM2
  have HB3 := Lib.hid (HB2.out.trans (hd3.2.below (B := w.heap.size) (by omega) (by omega)))
  have HO2b := Lib.hid (HO2.out.only hd3.2 HS2.out (Or.inl (by omega)))
  have HO3 := Lib.hid ho3
  have HS3 := Lib.hid ho3.span
  have HTS := Lib.hid hts
  have KA := l17Any_any W0.heap.size a n c w3 hd3.1
  unfold DrewH at KA
  have HKA := Lib.hid KA
  clear ho3 hd3 hM2 KA HKT hts
  go_wp2_with fail
  refine HKA.out.mono ?_
  rintro e w4 ⟨v, x, rfl, ho4, -, hd4⟩
  have hs4 := hd4.2.size
  have hM4 := (hd4.2.block w.heap.size (by omega) (by omega)).trans hM3
  have HB4 := Lib.hid (HB3.out.trans (hd4.2.below (B := w.heap.size) (by omega) (by omega)))
  have HO2c := Lib.hid (HO2b.out.only hd4.2 HS2.out (Or.inl (by omega)))
  have HO3b := Lib.hid (HO3.out.only hd4.2 HS3.out (Or.inl (by omega)))
  have HO4 := Lib.hid (ho4.lower (B' := w.heap.size + 1) (by omega))
  obtain ⟨p4, k4, r4, q4, m4, d4, rfl⟩ := ho4.shape
  obtain ⟨m0, m1, g0, g1⟩ := two_cells hM4
  obtain ⟨z0, z1, hZ⟩ := two_put hM4 (.slice p4 k4 r4) (.slice q4 m4 d4)
  clear ho4 hd4 hM3 hM4 hZ HKA
  go_wp2_with fail
  (try simp only [Exit.inBlock, Exit.then])
  refine bodyPost_ret (by simp [results, Try.results21, go_sem, z0, z1]; try rfl) rfl ?_
  have hfin := put_hel HB4.out HO4.out
  have hi := set_pair_inside w4 w.heap.size (.slice p4 k4 r4) (.slice q4 m4 d4)
  exact ⟨_, _, _, vs, _, _, _, ts, _, x, rfl, (HO2c.out.aside hi HS2.out (Or.inl (by omega))).nums, hk6, (HO3b.out.aside hi HS3.out (Or.inl (by omega))).nums, hm4, HTS.out, hfin.1.hel, hfin.2⟩
end Go.Proofs.Ytcpnchjgklemgaa
