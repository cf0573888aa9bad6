/- Extensions read off the cursor, one behind the other, and a list of integers decoded: by the program. -/
import Derived.Test.YtnjjfagokbbelaaRdE
import Derived.Test.YtnjjfagokbbelaaAre
import Derived.Test.YtnjjfagokbbelaaExtS
import Derived.Test.YtnjjfagokbbelaaValB
namespace Go.Proofs.Ytnjjfagokbbelaa
open Go.ChangeShapes Go.WideShapes Go.ChangeAt Go.RowKit
set_option linter.unusedVariables false
set_option linter.unusedSimpArgs false

theorem rdXs_stop {b : List Int} {j : Nat} (h : rdXs b j = none) : ∀ q, j ≤ q → rdXs b q = none
  | 0, hq => by
    obtain rfl : j = 0 := by omega
    exact h
  | q + 1, hq => by
    by_cases e : j = q + 1
    · rw [← e]; exact h
    · rw [rdXs, rdXs_stop h q (by omega)]
theorem rdXs_step {b : List Int} {j k : Nat} {l : List Vl} (h : rdXs b j = some (l, k)) : rdXs b (j + 1) = (rdX b k).map fun p => (l ++ [p.1], p.2) := by rw [rdXs, h]
theorem grown_then {n : Nat} {w W w' : World} {row : Option Nat} (h : w.grownBy W row) (hb : Below n W w') (hn : w.heap.size ≤ n) (hs : n ≤ W.heap.size) : w.grownBy w' row :=
  ⟨hb.os.trans h.os, hb.tape.trans h.tape, hb.output.trans h.output, Nat.le_trans h.size hb.size, fun i hi hr => (hb.block i (by omega)).trans (h.block i hi hr)⟩
/-- What is left by the reading of all extensions. -/
def RaTold (tO tI : TypeId) (g : Nat) (b : Option Addr) (m d : Nat) (o : Option (List Vl × Nat)) (w : World) (e : Ending) (w' : World) : Prop :=
  match o with
  | none => e = .returned (.tuple #[.slice none 0 0, .bool false]) ∧ w.grownBy w' (some g)
  | some (l, k) => ∃ q n c, e = .returned (.tuple #[.slice q n c, .bool true]) ∧ OwnV tO tI w' w.heap.size q n c l ∧ Cur w' g b m d k ∧ w.grownBy w' (some g)
set_option maxHeartbeats 4000000 in
set_option maxRecDepth 100000 in
theorem readExts_no (g : Nat) (b : Option Addr) (m d : Nat) (y : List Int) (w : World) (h : Cur w g b m d 0) (hv : Fix w g b m y) (hd : m ≤ d ∧ (d : Int) ≤ 9223372036854775807) (hm : m ≤ 1000000000) (h1 : rdF fdN y 0 = none) :
    Calls Try.prog 51 #[.pointer (some ⟨g, 0, none⟩)] w (RaTold 57 3 g b m d none w) := by
  have KT := Lib.hid (readPart_no (w := w) partCount h1 (fun w0 hb => readField_any fdN g b m d 0 y w0 (h.same hb) (hv.same hb) hd hm (Nat.zero_le _) (Or.inl rfl)))
  have NI := not_int
  unfold PtNo at KT
  unfold RaTold
  clear h hv h1
  go_enter Try.func51, Try.ntmps51
  go_wp2_with fail
  refine KT.out.mono ?_
  rintro e w1 ⟨rfl, hg1⟩
  have HG1 := Lib.hid hg1
  clear hg1
  go_wp2_with fail
  go_ret2
  exact ⟨rfl, HG1.out⟩
set_option maxHeartbeats 4000000 in
set_option maxRecDepth 100000 in
theorem readExts_yes (g : Nat) (b : Option Addr) (m d N : Nat) (y : List Int) (w : World) (h : Cur w g b m d 0) (hv : Fix w g b m y) (hd : m ≤ d ∧ (d : Int) ≤ 9223372036854775807) (hm : m ≤ 1000000000) (hN : N ≤ 6) (h1 : rdF fdN y 0 = some (⟨(N : Int), []⟩, 1)) (hy1 : y.take 1 = [(N : Int)]) :
    Calls Try.prog 51 #[.pointer (some ⟨g, 0, none⟩)] w (RaTold 57 3 g b m d (rdXs y N) w) := by
  have hgl := h.lt
  have KT := Lib.hid (readPart_num (w := w) (by decide) partCount h1 (fun w0 hb => readField_any fdN g b m d 0 y w0 (h.same hb) (hv.same hb) hd hm (Nat.zero_le _) (Or.inl rfl)))
  have NI := is_int (N : Int)
  have HV := Lib.hid hv
  have hyl := hv.len
  have HF := Lib.hid (fun (j k : Nat) (l : List Vl) (hr : rdXs y j = some (l, k)) => (rdXs_form hy1 j l k hr))
  have HS := Lib.hid (fun (j : Nat) (hj : j ≤ N) (hr : rdXs y j = none) => rdXs_stop hr N hj)
  have HD := Lib.hid hd
  obtain ⟨i0, hi, hz0, hz1, hz2⟩ := info_parts infoExtS
  have HI := Lib.hid (And.intro hi (And.intro hz0 (And.intro hz1 hz2)))
  unfold PtNum at KT
  clear h hv h1 hi hz0 hz1 hz2 hy1 hd
  dsimp only at KT
  go_enter Try.func51, Try.ntmps51
  go_wp2_with fail
  refine KT.out.mono ?_
  rintro e w1 ⟨rfl, hc1, hg1⟩
  have HC1 := Lib.hid hc1
  have HG1 := Lib.hid hg1
  have hs1 := hg1.size
  clear hc1 hg1 KT
  go_wp2_with (with_reducible refine wpList_make_own _ rfl (.const (.int .i64 0)) (.tmp 17) 24 rfl w.heap.size 57 i0 (.agg #[.int .i64 0, .slice none 0 0]) 2 Try.underlying24 HI.out.1 HI.out.2.1 HI.out.2.2.1 .i64 .i64 _ N rfl rfl rfl ?c1 ?c2 ?c3 ?_)
  case c1 => rw [HI.out.2.2.2]; omega
  case c2 => unfold maxLen; omega
  case c3 => exact hs1
  intro w2 hown hgrow
  have HO2 : Hid (OwnV 57 3 w2 w.heap.size (some ⟨w1.heap.size, 0, none⟩) 0 N []) := Lib.hid ⟨[], ⟨rfl, hown⟩, rfl, fun j g x h => by simp at h, fun i j h k _ h' => by simp at h'⟩
  have hb2 : Below w1.heap.size w1 w2 := (Below.refl _ w1).grown hgrow (Nat.le_refl _) (fun _ e => by cases e)
  have HC2 := Lib.hid (HC1.out.same hb2)
  have HG2 := Lib.hid (HG1.out.trans (grown_below hb2 (some g)))
  clear hown hgrow hb2
  go_wp2_with fail
  go_loopw [6, 20] (fun v i wr => ∃ (j k : Nat) (l : List Vl) (q : Option Addr) (e : Nat), j ≤ N ∧ i = .int .i64 j ∧ v = .slice q j e ∧ rdXs y j = some (l, k) ∧ OwnV 57 3 wr w.heap.size q j e l ∧ Cur wr g b m d k ∧ w.grownBy wr (some g)) (fun _ i _ => N - (intOf i).toNat)
  case atStart => exact ⟨0, 1, [], _, _, Nat.zero_le _, rfl, rfl, rfl, HO2.out, HC2.out, HG2.out⟩
  case round =>
    obtain ⟨j, k, l, q, e, hj, rfl, rfl, hr, hown, hc, hg⟩ := hrel
    have HOr := Lib.hid hown
    have HCr := Lib.hid hc
    have HGr := Lib.hid hg
    have hk : k ≤ m := by have := (HF.out j k l hr).2.1; omega
    have hst := rdXs_step hr
    have HR := Lib.hid hr
    have hsr := hg.size
    clear hown hc hg hr
    by_cases hlt : j < N
    · have KX := readExt_any g b m d k y wr HCr.out (HV.out.on HGr.out) HD.out hm hk
      unfold RxTold at KX
      cases hx : rdX y k with
      | none =>
        rw [hx] at KX hst
        have HE := Lib.hid (HS.out (j + 1) (by omega) (by rw [hst]; rfl))
        have KX := Lib.hid KX
        unfold Rdn at KX
        clear hx hst
        go_wp2_with fail
        refine KX.out.mono ?_
        rintro e3 w3 ⟨rfl, hg3⟩
        have HG3 := Lib.hid (HGr.out.trans hg3)
        clear hg3
        go_wp2_with fail
        go_ret2
        rw [HE.out]
        exact ⟨rfl, HG3.out.trans (grown_below (alloc_same _ _) _)⟩
      | some p =>
        obtain ⟨x, k2⟩ := p
        rw [hx] at KX hst
        obtain ⟨xn, xi⟩ := x
        have HE : Hid (rdXs y (j + 1) = some (l ++ [⟨xn, xi⟩], k2)) := Lib.hid (by rw [hst]; rfl)
        have KX := Lib.hid KX
        clear hx hst
        dsimp only at KX
        go_wp2_with fail
        refine KX.out.mono ?_
        rintro e3 w3 ⟨p3, q3, r3, rfl, ho3, hc3, hg3⟩
        have HO3 := Lib.hid ho3
        have HC3 := Lib.hid hc3
        have HG3 := Lib.hid (HGr.out.trans hg3)
        have HL3 := Lib.hid (HOr.out.lim.far hg3 (fun r e => by cases e; exact Or.inl hgl))
        have hs3 := hg3.size
        have HNN : Hid (Items Vh.enc 2 ((w3.alloc (.cells #[.int .i64 xn, .slice p3 q3 r3] 57)).alloc (.cells #[.int .i64 xn, .slice p3 q3 r3] 57)) (some ⟨w3.heap.size + 1, 0, none⟩) 1 [⟨xn, p3, q3, r3⟩]) := Lib.hid (by
          have : Items Vh.enc 2 ((w3.alloc (.cells #[.int .i64 xn, .slice p3 q3 r3] 57)).alloc (.cells #[.int .i64 xn, .slice p3 q3 r3] 57)) (some ⟨(w3.alloc (.cells #[.int .i64 xn, .slice p3 q3 r3] 57)).heap.size, 0, none⟩) 1 [⟨xn, p3, q3, r3⟩] := items_new Vh.enc_len (w3.alloc (.cells #[.int .i64 xn, .slice p3 q3 r3] 57)) ⟨xn, p3, q3, r3⟩ 57
          simpa using this)
        clear ho3 hc3 hg3
        go_wp2_with (at_builtin; refine wpl_appV (S := wr.heap.size) (B := w.heap.size) _ rfl (.tmp 29) (.tmp 31) 24 rfl 57 3 i0 (.agg #[.int .i64 0, .slice none 0 0]) 32 Try.underlying24 HI.out.1 HI.out.2.1 HI.out.2.2.1 HI.out.2.2.2 rfl rfl ((HL3.out.same (alloc_same _ _)).same (alloc_same _ _)) rfl HNN.out (((HO3.out.lower hsr).alloc _).alloc _) (fun ad e => (HO3.out.span ad e).1) (by omega) ?c4 ?c5 ?_)
        case c4 => omega
        case c5 => simp; omega
        intro a4 c4 w4 ho4 hb4
        have HO4 := Lib.hid ho4
        have hW : Below w3.heap.size w3 ((w3.alloc (.cells #[.int .i64 xn, .slice p3 q3 r3] 57)).alloc (.cells #[.int .i64 xn, .slice p3 q3 r3] 57)) := ((Below.refl _ w3).alloc (Nat.le_refl _) _).alloc (by simp) _
        have HC4 : Hid (Cur w4 g b m d k2) := Lib.hid ((hb4.block g hgl).trans (HC3.out.same hW))
        have HG4 : Hid (w.grownBy w4 (some g)) := Lib.hid (grown_then (HG3.out.trans (grown_below hW (some g))) hb4 (Nat.le_refl _) (by simp; omega))
        clear ho4 hb4 hW
        go_wp2_with fail
        go_roundw
        case rel => exact ⟨j + 1, k2, _, a4, c4, by omega, by go_num, rfl, HE.out, HO4.out, HC4.out, HG4.out⟩
        case measure => simp [intOf]; omega
    · obtain rfl : j = N := by omega
      go_wp2_with fail
      go_ret2
      rw [HR.out]
      exact ⟨_, _, _, rfl, HOr.out, HCr.out, HGr.out⟩
theorem readExts_any (g : Nat) (b : Option Addr) (m d : Nat) (y : List Int) (w : World) (h : Cur w g b m d 0) (hv : Fix w g b m y) (hd : m ≤ d ∧ (d : Int) ≤ 9223372036854775807) (hm : m ≤ 1000000000) :
    Calls Try.prog 51 #[.pointer (some ⟨g, 0, none⟩)] w (RaTold 57 3 g b m d (rdAll y) w) := by
  unfold rdAll
  cases h1 : rdF fdN y 0 with
  | none => exact readExts_no g b m d y w h hv hd hm h1
  | some p =>
    obtain ⟨⟨cn, ci⟩, k0⟩ := p
    have f := rdF_form h1
    have q := rdF_kind1 (x := fdN) rfl h1
    dsimp only at f q ⊢
    obtain ⟨rfl, rfl⟩ := q
    rw [fitsN] at f
    have hc : 0 ≤ cn ∧ cn ≤ 6 := by simpa using f.2.2.2
    obtain ⟨N, rfl⟩ : ∃ N : Nat, cn = N := ⟨cn.toNat, by omega⟩
    rw [Int.toNat_natCast]
    exact readExts_yes g b m d N y w h hv hd hm (by omega) h1 (by rw [show (1 : Nat) = 0 + 1 from rfl, f.2.2.1]; rfl)
def decL (y : List Int) : List Vl := (decX y).getD []
def decOk (y : List Int) : Bool := (decX y).isSome
theorem dec_none {y : List Int} (h : decX y = none) : decL y = [] ∧ decOk y = false := by unfold decL decOk; rw [h]; exact ⟨rfl, rfl⟩
theorem dec_some {y : List Int} {l : List Vl} (h : decX y = some l) : decL y = l ∧ decOk y = true := by unfold decL decOk; rw [h]; exact ⟨rfl, rfl⟩
theorem decL_few (y : List Int) : (decL y).length ≤ 6 ∧ itemsOf (decL y) ≤ 24 := by
  cases h : decX y with
  | none => rw [(dec_none h).1]; simp [itemsOf]
  | some l => rw [(dec_some h).1]; exact decX_few h
/-- What is left by a function that decodes extensions. -/
def DxTold (tO tI : TypeId) (y : List Int) (w : World) (e : Ending) (w' : World) : Prop :=
  ∃ q n c, e = .returned (.tuple #[.slice q n c, .bool (decOk y)]) ∧ OwnV tO tI w' w.heap.size q n c (decL y) ∧ Below w.heap.size w w'
set_option maxHeartbeats 4000000 in
set_option maxRecDepth 100000 in
theorem decodeExts_any {b : Option Addr} {m d : Nat} {y : List Int} {w : World} (hv : Nums .i64 w b m y) (hd : m ≤ d ∧ (d : Int) ≤ 9223372036854775807) (hm : m ≤ 1000000000) :
    Calls Try.prog 15 #[.slice b m d] w (DxTold 57 3 y w) := by
  have hyl := Lib.hid hv.len
  have hb0 := alloc_same w (.cells #[.slice b m d, .int .i64 0] 66)
  have hC0 : Cur (w.alloc (.cells #[.slice b m d, .int .i64 0] 66)) w.heap.size b m d 0 := heap_alloc_new w _
  have hF0 : Fix (w.alloc (.cells #[.slice b m d, .int .i64 0] 66)) w.heap.size b m y := fun w' hg => hv.same (hb0.grown hg (by simp) (fun j e => by cases e; exact Nat.le_refl _))
  have KA := Lib.hid (readExts_any w.heap.size b m d y _ hC0 hF0 hd hm)
  have HB0 := Lib.hid hb0
  have hs0 := hb0.size
  unfold RaTold at KA
  unfold DxTold
  clear hv hC0 hF0 hb0
  cases hr : rdAll y with
  | none =>
    rw [hr] at KA
    have HE := Lib.hid (dec_none (y := y) (by unfold decX; rw [hr]))
    clear hr
    dsimp only at KA
    go_enter Try.func15, Try.ntmps15
    go_wp2_with fail
    refine KA.out.mono ?_
    rintro e w1 ⟨rfl, hg1⟩
    have HB1 := Lib.hid (HB0.out.grown hg1 hs0 (fun j e => by cases e; exact Nat.le_refl _))
    clear hg1 KA
    go_wp2_with fail
    go_ret2
    exact ⟨_, _, _, by rw [HE.out.2]; rfl, by rw [HE.out.1]; exact OwnV.empty HB1.out.size, HB1.out.alloc HB1.out.size _⟩
  | some p =>
    obtain ⟨l, k⟩ := p
    rw [hr] at KA
    dsimp only at KA
    by_cases hk : k = m
    · subst hk
      cases ha : areX l with
      | true =>
        have HE := Lib.hid (dec_some (y := y) (l := l) (by unfold decX; rw [hr]; dsimp only; rw [if_pos ⟨hyl.out.symm, ha⟩]))
        go_enter Try.func15, Try.ntmps15
        go_wp2_with fail
        refine KA.out.mono ?_
        rintro e w1 ⟨q, n, c, rfl, ho1, hc1, hg1⟩
        have HB1 := Lib.hid (HB0.out.grown hg1 hs0 (fun j e => by cases e; exact Nat.le_refl _))
        have HO1 := Lib.hid (ho1.lower hs0)
        have KV := Lib.hid (areExts_any (c := c) ho1.vals)
        rw [ha] at KV
        obtain ⟨c0, c1, _, _⟩ := two_cells hc1
        clear hg1 KA hr ha ho1 hc1
        go_wp2_with (go_at_call 14; refine KV.out.mono ?_; rintro e w2 ⟨rfl, hb2⟩; have HB2 := Lib.hid hb2; clear hb2)
        go_ret2
        exact ⟨_, _, _, by rw [HE.out.2]; rfl, by rw [HE.out.1]; exact HO1.out.same HB2.out, HB1.out.trans (HB2.out.mono HB1.out.size)⟩
      | false =>
        have HE := Lib.hid (dec_none (y := y) (by unfold decX; rw [hr]; dsimp only; rw [if_neg (fun h => by rw [ha] at h; cases h.2)]))
        go_enter Try.func15, Try.ntmps15
        go_wp2_with fail
        refine KA.out.mono ?_
        rintro e w1 ⟨q, n, c, rfl, ho1, hc1, hg1⟩
        have HB1 := Lib.hid (HB0.out.grown hg1 hs0 (fun j e => by cases e; exact Nat.le_refl _))
        have KV := Lib.hid (areExts_any (c := c) ho1.vals)
        rw [ha] at KV
        obtain ⟨c0, c1, _, _⟩ := two_cells hc1
        clear hg1 KA hr ha ho1 hc1
        go_wp2_with (go_at_call 14; refine KV.out.mono ?_; rintro e w2 ⟨rfl, hb2⟩; have HB2 := Lib.hid (HB1.out.trans (hb2.mono HB1.out.size)); clear hb2)
        go_ret2
        exact ⟨_, _, _, by rw [HE.out.2]; rfl, by rw [HE.out.1]; exact OwnV.empty HB2.out.size, HB2.out.alloc HB2.out.size _⟩
    · have HE := Lib.hid (dec_none (y := y) (by unfold decX; rw [hr]; dsimp only; rw [if_neg (fun h => hk (h.1.trans hyl.out))]))
      have hkm : ((k : Int) != (m : Int)) = true := by simp; omega
      go_enter Try.func15, Try.ntmps15
      go_wp2_with fail
      refine KA.out.mono ?_
      rintro e w1 ⟨q, n, c, rfl, ho1, hc1, hg1⟩
      have HB1 := Lib.hid (HB0.out.grown hg1 hs0 (fun j e => by cases e; exact Nat.le_refl _))
      obtain ⟨c0, c1, _, _⟩ := two_cells hc1
      clear hg1 KA hr ho1 hc1
      go_wp2_with fail
      go_ret2
      exact ⟨_, _, _, by rw [HE.out.2]; rfl, by rw [HE.out.1]; exact OwnV.empty HB1.out.size, HB1.out.alloc HB1.out.size _⟩
end Go.Proofs.Ytnjjfagokbbelaa
