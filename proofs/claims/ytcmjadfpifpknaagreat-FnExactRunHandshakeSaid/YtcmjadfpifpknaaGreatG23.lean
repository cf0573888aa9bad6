/- A version added to a list and one taken away, by the program. The functions that change a message that a pointer leads to: by the program. The edits by their kinds, in a map of functions that the call makes: by the program. A list of extensions copied, by the program. -/
import Derived.Test.YtcmjadfpifpknaaGreatG22
import Derived.Test.YtcmjadfpifpknaaGreatG14
import Derived.Test.YtcmjadfpifpknaaGreatG21
import Derived.Test.YtcmjadfpifpknaaGreatG6
import Derived.Test.YtcmjadfpifpknaaGreatG7
import Derived.Maps.Own
import Derived.MapKept
import Derived.Test.YtcmjadfpifpknaaGreatG11
namespace Go.Proofs.YtcmjadfpifpknaaGreat
open Go.ChangeShapes Go.WideShapes Go.ChangeAt Go.RowKit
set_option linter.unusedVariables false
set_option linter.unusedSimpArgs false

theorem addV_few (l : List Int) (v : Int) : (addV l v).length ≤ l.length + 9 := by
  unfold addV
  split
  · exact Nat.le_trans (lw_len _) (by omega)
  · omega
theorem dropV_few (l : List Int) (v : Int) : (dropV l v).length ≤ l.length + 9 := by
  unfold dropV
  split
  · exact Nat.le_trans (lw_len _) (by omega)
  · omega
/-- What a function leaves that makes a list of integers and says whether it is another one. -/
def MadeB (t : TypeId) (B : Nat) (l : List Int) (ok : Bool) (w : World) (e : Ending) (w' : World) : Prop :=
  ∃ a n c, e = .returned (.tuple #[.slice a n c, .bool ok]) ∧ Own .i64 t w' B a n c l ∧ Below B w w'
set_option maxRecDepth 100000 in
set_option maxHeartbeats 2000000 in
theorem addVersion_any {a : Option Addr} {n c : Nat} {l : List Int} (v : Int) {w : World} (h : Nums .i64 w a n l) (hn : n ≤ 1048576000) :
    Calls Tryz.prog 144 #[.slice a n c, .int .i64 v] w (MadeB 3 w.heap.size (addV l v) (addsV l v) w) := by
  have H := Lib.hid (versionsOf_any (c := c) h)
  have HC := Lib.hid (copyList_any (c := c) h (by omega))
  have hlt := word_lt l
  unfold MadeB
  by_cases h0 : word l = 0
  · obtain ⟨e1, e2⟩ := addV_no (l := l) (v := v) (fun q => q.1 h0)
    rw [e1, e2]
    rw [h0] at H
    clear h h0 e1 e2 hlt
    go_enter Tryz.func144, Tryz.ntmps144
    go_wp2_with fail
    refine H.out.mono ?_
    rintro e w' ⟨rfl, rfl⟩
    go_wp2_with fail
    refine HC.out.mono ?_
    rintro e w1 ⟨a1, n1, c1, rfl, ho1, hb1⟩
    have HO1 := Lib.hid ho1
    have HB1 := Lib.hid hb1
    clear ho1 hb1
    go_wp2_with fail
    go_ret2
    exact ⟨_, _, _, rfl, HO1.out, HB1.out⟩
  obtain ⟨k, hk⟩ : ∃ k : Nat, word l = k := ⟨_, rfl⟩
  have hlw : lw k = l := by rw [← hk]; exact lw_word h0
  have HH := has_any (k := k) (by omega) v
  rw [hlw] at HH
  have hk0 : ((k : Int) == 0) = false := by
    rw [← hk]
    simpa using h0
  rw [hk] at H
  have HV := isVersion_any v
  by_cases hr : 1 ≤ v ∧ v ≤ 9
  · rw [inBd_yes hr.1 hr.2] at HV
    by_cases hm : v ∈ l
    · obtain ⟨e1, e2⟩ := addV_no (l := l) (v := v) (fun q => q.2.2 hm)
      rw [e1, e2]
      rw [decide_eq_true hm] at HH
      clear h h0 e1 e2 hlt hk hlw hr hm
      go_enter Tryz.func144, Tryz.ntmps144
      go_wp2_with fail
      refine H.out.mono ?_
      rintro e w' ⟨rfl, rfl⟩
      go_wp2_with fail
      refine (HV _).mono ?_
      rintro e w' ⟨rfl, rfl⟩
      go_wp2_with fail
      refine (HH _).mono ?_
      rintro e w' ⟨rfl, rfl⟩
      go_wp2_with fail
      refine HC.out.mono ?_
      rintro e w1 ⟨a1, n1, c1, rfl, ho1, hb1⟩
      have HO1 := Lib.hid ho1
      have HB1 := Lib.hid hb1
      clear ho1 hb1
      go_wp2_with fail
      go_ret2
      exact ⟨_, _, _, rfl, HO1.out, HB1.out⟩
    · obtain ⟨e1, e2⟩ := addV_yes h0 hr hm
      rw [e1, e2]
      rw [decide_eq_false hm] at HH
      have HO := Lib.hid (word_or (w := k) (by omega) hr)
      have HLt := Lib.hid (or_lt (w := k) (by omega) hr)
      obtain ⟨p, hp⟩ : ∃ p : Nat, 2 ^ (v.toNat - 1) = p := ⟨_, rfl⟩
      have HB := Lib.hid (bitOf_val hr hp)
      rw [hk, hp]
      rw [hp] at HO HLt
      obtain ⟨q, hq⟩ : ∃ q : Nat, (k ||| p) = q := ⟨_, rfl⟩
      rw [hq] at HO HLt
      rw [hq]
      have ho := HO.out
      clear h h0 e1 e2 hlt hk hlw hr hm hp hq HC
      go_enter Tryz.func144, Tryz.ntmps144
      go_wp2_with fail
      refine H.out.mono ?_
      rintro e w' ⟨rfl, rfl⟩
      go_wp2_with fail
      refine (HV _).mono ?_
      rintro e w' ⟨rfl, rfl⟩
      go_wp2_with fail
      refine (HH _).mono ?_
      rintro e w' ⟨rfl, rfl⟩
      go_wp2_with fail
      refine (HB.out _).mono ?_
      rintro e w' ⟨rfl, rfl⟩
      go_wp2_with fail
      refine (list_any HLt.out _).mono ?_
      rintro e w1 ⟨a1, n1, c1, rfl, ho1, hb1⟩
      have HO1 := Lib.hid ho1
      have HB1 := Lib.hid hb1
      clear ho1 hb1
      go_wp2_with fail
      go_ret2
      exact ⟨_, _, _, rfl, HO1.out, HB1.out⟩
  · obtain ⟨e1, e2⟩ := addV_no (l := l) (v := v) (fun q => hr q.2.1)
    rw [e1, e2]
    rw [inBd_no hr] at HV
    clear h h0 e1 e2 hlt hk hlw hr HH
    go_enter Tryz.func144, Tryz.ntmps144
    go_wp2_with fail
    refine H.out.mono ?_
    rintro e w' ⟨rfl, rfl⟩
    go_wp2_with fail
    refine (HV _).mono ?_
    rintro e w' ⟨rfl, rfl⟩
    go_wp2_with fail
    refine HC.out.mono ?_
    rintro e w1 ⟨a1, n1, c1, rfl, ho1, hb1⟩
    have HO1 := Lib.hid ho1
    have HB1 := Lib.hid hb1
    clear ho1 hb1
    go_wp2_with fail
    go_ret2
    exact ⟨_, _, _, rfl, HO1.out, HB1.out⟩
set_option maxRecDepth 100000 in
set_option maxHeartbeats 2000000 in
theorem dropVersion_any {a : Option Addr} {n c : Nat} {l : List Int} (v : Int) {w : World} (h : Nums .i64 w a n l) (hn : n ≤ 1048576000) :
    Calls Tryz.prog 143 #[.slice a n c, .int .i64 v] w (MadeB 3 w.heap.size (dropV l v) (dropsV l v) w) := by
  have H := Lib.hid (versionsOf_any (c := c) h)
  have HC := Lib.hid (copyList_any (c := c) h (by omega))
  have hlt := word_lt l
  unfold MadeB
  obtain ⟨k, hk⟩ : ∃ k : Nat, word l = k := ⟨_, rfl⟩
  have HH := has_any (k := k) (by omega) v
  rw [hk] at H
  by_cases hm : word l ≠ 0 ∧ v ∈ l
  · obtain ⟨h0, hm⟩ := hm
    have hr := in_range h0 hm
    have hlw : lw k = l := by rw [← hk]; exact lw_word h0
    rw [hlw, decide_eq_true hm] at HH
    obtain ⟨p, hp⟩ : ∃ p : Nat, 2 ^ (v.toNat - 1) = p := ⟨_, rfl⟩
    have HB := Lib.hid (bitOf_val hr hp)
    have hs := word_single h0 hm
    rw [hk, hp] at hs
    by_cases hl1 : l.length = 1
    · obtain ⟨e1, e2⟩ := dropV_no (l := l) (v := v) (fun q => q.2.2 hl1)
      rw [e1, e2]
      obtain rfl := hs.2 hl1
      clear h h0 e1 e2 hlt hk hlw hr hm hp hs hl1
      go_enter Tryz.func143, Tryz.ntmps143
      go_wp2_with fail
      refine H.out.mono ?_
      rintro e w' ⟨rfl, rfl⟩
      go_wp2_with fail
      refine (HH _).mono ?_
      rintro e w' ⟨rfl, rfl⟩
      go_wp2_with fail
      refine (HB.out _).mono ?_
      rintro e w' ⟨rfl, rfl⟩
      go_wp2_with fail
      refine HC.out.mono ?_
      rintro e w1 ⟨a1, n1, c1, rfl, ho1, hb1⟩
      have HO1 := Lib.hid ho1
      have HB1 := Lib.hid hb1
      clear ho1 hb1
      go_wp2_with fail
      go_ret2
      exact ⟨_, _, _, rfl, HO1.out, HB1.out⟩
    · obtain ⟨e1, e2⟩ := dropV_yes h0 hm hl1
      rw [e1, e2]
      have hkp : k ≠ p := fun q => hl1 (hs.1 q)
      have hne : ((k : Int) == (p : Int)) = false := beq_false_of_ne (fun q => hkp (by omega))
      have hne2 : (k == p) = false := beq_false_of_ne hkp
      have HO := Lib.hid (word_drop (w := k) (by omega) hr)
      rw [hk, hp]
      rw [hp] at HO
      have HLt : Hid ((k &&& (511 ^^^ p)) < 512) := Lib.hid (drop_lt (by omega) _)
      obtain ⟨q, hq⟩ : ∃ q : Nat, (k &&& (511 ^^^ p)) = q := ⟨_, rfl⟩
      rw [hq] at HO HLt
      rw [hq]
      have ho := HO.out
      clear h h0 e1 e2 hlt hk hlw hr hm hp hq hs hl1 HC
      go_enter Tryz.func143, Tryz.ntmps143
      go_wp2_with fail
      refine H.out.mono ?_
      rintro e w' ⟨rfl, rfl⟩
      go_wp2_with fail
      refine (HH _).mono ?_
      rintro e w' ⟨rfl, rfl⟩
      go_wp2_with fail
      refine (HB.out _).mono ?_
      rintro e w' ⟨rfl, rfl⟩
      go_wp2_with fail
      refine (HB.out _).mono ?_
      rintro e w' ⟨rfl, rfl⟩
      go_wp2_with fail
      refine (list_any HLt.out _).mono ?_
      rintro e w1 ⟨a1, n1, c1, rfl, ho1, hb1⟩
      have HO1 := Lib.hid ho1
      have HB1 := Lib.hid hb1
      clear ho1 hb1
      go_wp2_with fail
      go_ret2
      exact ⟨_, _, _, rfl, HO1.out, HB1.out⟩
  · obtain ⟨e1, e2⟩ := dropV_no (l := l) (v := v) (fun q => hm ⟨q.1, q.2.1⟩)
    rw [e1, e2]
    have hno : ¬ v ∈ lw k := fun q => by
      by_cases h0 : word l = 0
      · rw [← hk, h0] at q
        have : lw 0 = [] := by decide
        rw [this] at q
        cases q
      · rw [← hk, lw_word h0] at q
        exact hm ⟨h0, q⟩
    rw [decide_eq_false hno] at HH
    clear h e1 e2 hlt hk hm hno
    go_enter Tryz.func143, Tryz.ntmps143
    go_wp2_with fail
    refine H.out.mono ?_
    rintro e w' ⟨rfl, rfl⟩
    go_wp2_with fail
    refine (HH _).mono ?_
    rintro e w' ⟨rfl, rfl⟩
    go_wp2_with fail
    refine HC.out.mono ?_
    rintro e w1 ⟨a1, n1, c1, rfl, ho1, hb1⟩
    have HO1 := Lib.hid ho1
    have HB1 := Lib.hid hb1
    clear ho1 hb1
    go_wp2_with fail
    go_ret2
    exact ⟨_, _, _, rfl, HO1.out, HB1.out⟩
end Go.Proofs.YtcmjadfpifpknaaGreat
namespace Go.Proofs.YtcmjadfpifpknaaGreat
open Go.ChangeShapes Go.WideShapes Go.ChangeAt Go.RowKit
set_option linter.unusedVariables false
set_option linter.unusedSimpArgs false

/-- Block g holds this hello; its lists lie in blocks of the call's own, from B on and below g, the versions first. -/
def MsgH (B g : Nat) (w : World) (x : Hel) : Prop :=
  ∃ (a : Option Addr) (n c : Nat) (b : Option Addr) (m d lo hi lo' hi' : Nat), w.heap[g]? = some (.cells #[.slice a n c, .slice b m d] 27 (0, 0)) ∧ Own .i64 3 w lo a n c x.vers ∧ OwnVB hi' 125 3 w lo' b m d x.exts ∧ Span a lo hi ∧ B ≤ lo ∧ hi ≤ lo' ∧ hi' ≤ g ∧ B ≤ lo' ∧ lo' ≤ g ∧ hi ≤ g
/-- The same of an answer. -/
def MsgA (B g : Nat) (w : World) (x : Ans) : Prop :=
  ∃ (b : Option Addr) (m d lo' hi' : Nat), w.heap[g]? = some (.cells #[.int .i64 x.ver, .slice b m d] 44 (0, 0)) ∧ OwnVB hi' 125 3 w lo' b m d x.exts ∧ hi' ≤ g ∧ B ≤ lo' ∧ lo' ≤ g
/-- What is left by a function that changes it. -/
def LeftH (B g : Nat) (y : Hel) (w : World) (e : Ending) (w' : World) : Prop :=
  ∃ (a : Option Addr) (n c : Nat) (b : Option Addr) (m d : Nat), e = .returned (.tuple #[]) ∧ w'.heap[g]? = some (.cells #[.slice a n c, .slice b m d] 27 (0, 0)) ∧ (∀ (w9 : World) (q : Nat), w'.grownBy w9 (some q) → g ≤ q → q < w.heap.size → OwnHel w9.heap.size w9 B (.agg #[.slice a n c, .slice b m d]) y) ∧ Inside B (g + 1) w w'
def LeftA (B g : Nat) (y : Ans) (w : World) (e : Ending) (w' : World) : Prop :=
  ∃ (b : Option Addr) (m d : Nat), e = .returned (.tuple #[]) ∧ w'.heap[g]? = some (.cells #[.int .i64 y.ver, .slice b m d] 44 (0, 0)) ∧ (∀ (w9 : World) (q : Nat), w'.grownBy w9 (some q) → g ≤ q → q < w.heap.size → OwnAns w9.heap.size w9 B (.agg #[.int .i64 y.ver, .slice b m d]) y) ∧ Inside B (g + 1) w w'
theorem Inside.wide {lo hi lo' hi' : Nat} {w w' : World} (h : Inside lo hi w w') (h0 : lo' ≤ lo) (h1 : hi ≤ hi') : Inside lo' hi' w w' := ⟨h.os, h.tape, h.output, h.size, fun k hk hd => h.block k hk (by omega)⟩
theorem Inside.after {lo hi : Nat} {w w1 w2 : World} (hb : Below w.heap.size w w1) (h : Inside lo hi w1 w2) : Inside lo hi w w2 :=
  ⟨h.os.trans hb.os, h.tape.trans hb.tape, h.output.trans hb.output, Nat.le_trans hb.size h.size, fun k hk hd => (h.block k (Nat.lt_of_lt_of_le hk hb.size) hd).trans (hb.block k hk)⟩
theorem one_inside {w w' : World} {q : Nat} (h : w.grownBy w' (some q)) : Inside q (q + 1) w w' := Inside.row h fun _ e => by cases e; exact ⟨Nat.le_refl _, Nat.lt_succ_self _⟩
theorem box_lt {w : World} {g : Nat} {o : Obj} (h : w.heap[g]? = some o) : g < w.heap.size := (Array.getElem?_eq_some_iff.1 h).1
/-- One cell of a box of two is another one. -/
theorem put_first {w : World} {g : Nat} {t : TypeId} {u v : Value} (h : w.heap[g]? = some (.cells #[u, v] t (0, 0))) (z : Value) : (w.setCell ⟨g, 0, none⟩ z).heap[g]? = some (.cells #[z, v] t (0, 0)) := heap_setCell_same w g 0 _ _ z h
theorem put_second {w : World} {g : Nat} {t : TypeId} {u v : Value} (h : w.heap[g]? = some (.cells #[u, v] t (0, 0))) (z : Value) : (w.setCell ⟨g, 1, none⟩ z).heap[g]? = some (.cells #[u, z] t (0, 0)) := heap_setCell_same w g 1 _ _ z h
theorem set_inside (w : World) (g o : Nat) (u : Value) : Inside g (g + 1) w (w.setCell ⟨g, o, none⟩ u) :=
  Inside.row (lo := g) (hi := g + 1) (set_grown w g o u) (fun r e => by cases e; exact ⟨Nat.le_refl _, Nat.lt_succ_self _⟩)
set_option maxHeartbeats 4000000 in
set_option maxRecDepth 100000 in
theorem dropHelloVersion_any {B g : Nat} {w : World} {x : Hel} (t : Int) (h : MsgH B g w x) (hn : x.vers.length ≤ 1048576000) :
    Calls Tryz.prog 103 #[.pointer (some ⟨g, 0, none⟩), .int .i64 t] w (LeftH B g ⟨dropV x.vers t, x.exts⟩ w) := by
  obtain ⟨a, n, c, b, m, d, lo, hi, lo', hi', hbox, h1, h2, h3, l1, l2, l3, l4, l5, l6⟩ := h
  have hlt := box_lt hbox
  have hm := h1.len
  have H2 := Lib.hid h2
  have HX := Lib.hid hbox
  obtain ⟨x0, x1, f0, f1⟩ := two_cells hbox
  have HC := Lib.hid (dropVersion_any (c := c) t h1.nums (by omega))
  unfold MadeB at HC
  clear h1 h2 hbox
  go_enter Tryz.func103, Tryz.ntmps103
  go_wp2_with fail
  refine HC.out.mono ?_
  rintro e w2 ⟨p, k, r, rfl, ho, hb⟩
  have hs2 := hb.size
  have HB2 := Lib.hid hb
  have HO := Lib.hid ho
  have HS := Lib.hid ho.span
  have HX2 := Lib.hid ((HB2.out.block g hlt).trans HX.out)
  clear hb ho x0 x1 f0 f1
  obtain ⟨x0, x1, f0, f1⟩ := two_cells HX2.out
  go_wp2_with fail
  go_end0
  have hin := set_inside w2 g 0 (.slice p k r)
  refine ⟨p, k, r, b, m, d, rfl, put_first HX2.out _, fun w9 q hg9 hq0 hq1 => ?_, (Inside.after HB2.out hin).wide (by omega) (Nat.le_refl _)⟩
  have h9 := one_inside hg9
  have hs9 : w2.heap.size ≤ w9.heap.size := by have := h9.size; simpa using this
  exact own_hel (lo := w.heap.size) (hi := w2.heap.size) (lo' := lo') (hi' := hi') ((HO.out.aside hin HS.out (by omega)).aside h9 HS.out (by omega)) (((H2.out.same HB2.out).aside hin (by omega)).aside h9 (by omega)) HS.out (by omega) l4 hs9 (by omega) (Or.inr (by omega)) (Nat.le_refl _)
set_option maxHeartbeats 4000000 in
set_option maxRecDepth 100000 in
theorem addHelloVersion_any {B g : Nat} {w : World} {x : Hel} (t : Int) (h : MsgH B g w x) (hn : x.vers.length ≤ 1048576000) :
    Calls Tryz.prog 104 #[.pointer (some ⟨g, 0, none⟩), .int .i64 t] w (LeftH B g ⟨addV x.vers t, x.exts⟩ w) := by
  obtain ⟨a, n, c, b, m, d, lo, hi, lo', hi', hbox, h1, h2, h3, l1, l2, l3, l4, l5, l6⟩ := h
  have hlt := box_lt hbox
  have hm := h1.len
  have H2 := Lib.hid h2
  have HX := Lib.hid hbox
  obtain ⟨x0, x1, f0, f1⟩ := two_cells hbox
  have HC := Lib.hid (addVersion_any (c := c) t h1.nums (by omega))
  unfold MadeB at HC
  clear h1 h2 hbox
  go_enter Tryz.func104, Tryz.ntmps104
  go_wp2_with fail
  refine HC.out.mono ?_
  rintro e w2 ⟨p, k, r, rfl, ho, hb⟩
  have hs2 := hb.size
  have HB2 := Lib.hid hb
  have HO := Lib.hid ho
  have HS := Lib.hid ho.span
  have HX2 := Lib.hid ((HB2.out.block g hlt).trans HX.out)
  clear hb ho x0 x1 f0 f1
  obtain ⟨x0, x1, f0, f1⟩ := two_cells HX2.out
  go_wp2_with fail
  go_end0
  have hin := set_inside w2 g 0 (.slice p k r)
  refine ⟨p, k, r, b, m, d, rfl, put_first HX2.out _, fun w9 q hg9 hq0 hq1 => ?_, (Inside.after HB2.out hin).wide (by omega) (Nat.le_refl _)⟩
  have h9 := one_inside hg9
  have hs9 : w2.heap.size ≤ w9.heap.size := by have := h9.size; simpa using this
  exact own_hel (lo := w.heap.size) (hi := w2.heap.size) (lo' := lo') (hi' := hi') ((HO.out.aside hin HS.out (by omega)).aside h9 HS.out (by omega)) (((H2.out.same HB2.out).aside hin (by omega)).aside h9 (by omega)) HS.out (by omega) l4 hs9 (by omega) (Or.inr (by omega)) (Nat.le_refl _)
set_option maxHeartbeats 4000000 in
set_option maxRecDepth 100000 in
theorem dropHelloExt_any {B g : Nat} {w : World} {x : Hel} (t : Int) (h : MsgH B g w x) (hn : x.exts.length ≤ 1048576) (hit : itemsOf x.exts ≤ 1048576) :
    Calls Tryz.prog 105 #[.pointer (some ⟨g, 0, none⟩), .int .i64 t] w (LeftH B g ⟨x.vers, dropX t x.exts⟩ w) := by
  obtain ⟨a, n, c, b, m, d, lo, hi, lo', hi', hbox, h1, h2, h3, l1, l2, l3, l4, l5, l6⟩ := h
  have hlt := box_lt hbox
  have hm := h2.len
  have H1 := Lib.hid h1
  have H2 := Lib.hid h2
  have HX := Lib.hid hbox
  obtain ⟨x0, x1, f0, f1⟩ := two_cells hbox
  have HT : Hid (Below w.heap.size w (w.alloc (.cells #[.int .i64 t] 3))) := Lib.hid (alloc_same _ _)
  have HN : Hid (Nums .i64 (w.alloc (.cells #[.int .i64 t] 3)) (some ⟨w.heap.size, 0, none⟩) 1 [t]) := Lib.hid (nums_new w .i64 t 3)
  have HC := Lib.hid (withoutOne_any (c := d) (d := 1) (h2.vals.same HT.out) HN.out (by omega) hit)
  clear h1 h2 hbox
  go_enter Tryz.func105, Tryz.ntmps105
  go_wp2_with fail
  refine HC.out.mono ?_
  rintro e w2 ⟨p, k, r, rfl, ho, hb⟩
  have hs2 := hb.size
  have HB2 : Hid (Below w.heap.size w w2) := Lib.hid (HT.out.trans (hb.mono HT.out.size))
  have HO := Lib.hid ho
  have HX2 := Lib.hid ((HB2.out.block g hlt).trans HX.out)
  clear hb ho x0 x1 f0 f1
  obtain ⟨x0, x1, f0, f1⟩ := two_cells HX2.out
  go_wp2_with fail
  go_end0
  have hs1 := HB2.out.size
  have hsa : (w.alloc (.cells #[.int .i64 t] 3)).heap.size = w.heap.size + 1 := by simp
  have hin := set_inside w2 g 1 (.slice p k r)
  refine ⟨a, n, c, p, k, r, rfl, put_second HX2.out _, fun w9 q hg9 hq0 hq1 => ?_, (Inside.after HB2.out hin).wide (by omega) (Nat.le_refl _)⟩
  have h9 := one_inside hg9
  have hs9 : w2.heap.size ≤ w9.heap.size := by have := h9.size; simpa using this
  rw [hsa] at HO
  exact own_hel (lo := lo) (hi := hi) (lo' := w.heap.size + 1) (hi' := w2.heap.size) (((H1.out.same HB2.out).aside hin h3 (by omega)).aside h9 h3 (by omega)) ((HO.out.lim.aside hin (by omega)).aside h9 (by omega)) h3 l1 (by omega) (by omega) hs9 (Or.inl (by omega)) (Nat.le_refl _)
set_option maxHeartbeats 4000000 in
set_option maxRecDepth 100000 in
theorem addHelloExt_any {B g : Nat} {w : World} {x : Hel} (t : Int) (h : MsgH B g w x) (hn : x.exts.length ≤ 1048576) :
    Calls Tryz.prog 106 #[.pointer (some ⟨g, 0, none⟩), .int .i64 t] w (LeftH B g ⟨x.vers, addE t x.exts⟩ w) := by
  obtain ⟨a, n, c, b, m, d, lo, hi, lo', hi', hbox, h1, h2, h3, l1, l2, l3, l4, l5, l6⟩ := h
  have hlt := box_lt hbox
  have hm := h2.len
  have H1 := Lib.hid h1
  have H2 := Lib.hid h2
  have HX := Lib.hid hbox
  obtain ⟨x0, x1, f0, f1⟩ := two_cells hbox
  obtain ⟨i0, hi0, hz0, hz1, hz2⟩ := info_parts infoExtS
  have HI := Lib.hid (And.intro hi0 (And.intro hz0 (And.intro hz1 hz2)))
  have HNN : Hid (Items Vh.enc 2 (w.alloc (.cells #[.int .i64 t, .slice none 0 0] 125)) (some ⟨w.heap.size, 0, none⟩) 1 [⟨t, none, 0, 0⟩]) := Lib.hid (items_new Vh.enc_len w ⟨t, none, 0, 0⟩ 125)
  have HT : Hid (Below w.heap.size w (w.alloc (.cells #[.int .i64 t, .slice none 0 0] 125))) := Lib.hid (alloc_same _ _)
  clear h1 h2 hbox hi0 hz0 hz1 hz2
  go_enter Tryz.func106, Tryz.ntmps106
  go_wp2_with (at_builtin; refine wpl_appBoth (S := hi') (B := lo') rfl (.tmp 8) (.tmp 11) 25 rfl 125 3 i0 (.agg #[.int .i64 0, .slice none 0 0]) 32 Tryz.underlying25 HI.out.1 HI.out.2.1 HI.out.2.2.1 HI.out.2.2.2 rfl rfl (H2.out.same HT.out) rfl HNN.out (by omega) ?c4 ?c5 ?_)
  case c4 => omega
  case c5 => simp; omega
  intro a4 c4 w4 ho4 hq4 hb4
  have HB4 : Hid (Inside lo' hi' w w4) := Lib.hid ⟨hb4.os.trans HT.out.os, hb4.tape.trans HT.out.tape, hb4.output.trans HT.out.output, Nat.le_trans HT.out.size hb4.size, fun k hk hd => (hb4.block k (by have := HT.out.size; omega) hd).trans (HT.out.block k hk)⟩
  have HO4 := Lib.hid ho4
  have HQ4 := Lib.hid hq4
  have HX4 := Lib.hid ((HB4.out.block g hlt (by omega)).trans HX.out)
  have H14 := Lib.hid (H1.out.aside HB4.out h3 (by omega))
  have HA := Lib.hid (areExts_any (c := c4) ho4.ownV.vals)
  have hs4 : w.heap.size ≤ w4.heap.size := HB4.out.size
  clear ho4 hq4 hb4 x0 x1 f0 f1
  obtain ⟨x0, x1, f0, f1⟩ := two_cells HX4.out
  cases hA : areX (x.exts ++ [⟨t, []⟩]) with
  | true =>
    rw [hA] at HA
    have HE := Lib.hid (addE_yes hA)
    clear hA
    go_wp2_with fail
    refine HA.out.mono ?_
    rintro e w5 ⟨rfl, hb⟩
    have HB5 := Lib.hid hb
    have hs5 := hb.size
    have HX5 := Lib.hid ((HB5.out.block g (by omega)).trans HX4.out)
    clear hb x0 x1 f0 f1
    obtain ⟨x0, x1, f0, f1⟩ := two_cells HX5.out
    go_wp2_with fail
    go_end0
    have hin := set_inside w5 g 1 (.slice a4 (m + 1) c4)
    have hT := HT.out.size
    refine ⟨a, n, c, a4, m + 1, c4, rfl, put_second HX5.out _, fun w9 q hg9 hq0 hq1 => ?_, (HB4.out.wide (by omega) (by omega)).trans ((Inside.after HB5.out hin).wide (by omega) (Nat.le_refl _))⟩
    have h9 := one_inside hg9
    have hs9 : w5.heap.size ≤ w9.heap.size := by have := h9.size; simpa using this
    have hol := (((HO4.out.same HB5.out).far (set_grown w5 g 1 (.slice a4 (m + 1) c4)) (fun r e => by cases e; omega)).far hg9 (fun r e => by cases e; omega)).ownV.lim
    rw [HE.out]
    exact own_hel (lo := lo) (hi := hi) (lo' := lo') (hi' := _) (((H14.out.same HB5.out).aside hin h3 (by omega)).aside h9 h3 (by omega)) hol h3 l1 (by omega) (by omega) (Nat.le_refl _) (Or.inl (by omega)) (Nat.le_refl _)
  | false =>
    rw [hA] at HA
    have HE := Lib.hid (addE_no hA)
    clear hA
    go_wp2_with fail
    refine HA.out.mono ?_
    rintro e w5 ⟨rfl, hb⟩
    have HB5 := Lib.hid hb
    have hs5 := hb.size
    have HX5 := Lib.hid ((HB5.out.block g (by omega)).trans HX4.out)
    clear hb x0 x1 f0 f1
    go_wp2_with fail
    go_end0
    refine ⟨a, n, c, b, m, d, rfl, HX5.out, fun w9 q hg9 hq0 hq1 => ?_, (HB4.out.wide (by omega) (by omega)).trans ((Inside.after HB5.out (Inside.refl g (g + 1) _)).wide (by omega) (Nat.le_refl _))⟩
    have h9 := one_inside hg9
    have hs9 : w5.heap.size ≤ w9.heap.size := h9.size
    rw [HE.out]
    exact own_hel (lo := lo) (hi := hi) (lo' := lo') (hi' := hi') ((H14.out.same HB5.out).aside h9 h3 (by omega)) ((HQ4.out.same HB5.out).aside h9 (by omega)) h3 l1 (by omega) (by omega) (by omega) (Or.inl (by omega)) (Nat.le_refl _)
set_option maxHeartbeats 4000000 in
set_option maxRecDepth 100000 in
theorem dropAnswerExt_any {B g : Nat} {w : World} {x : Ans} (t : Int) (h : MsgA B g w x) (hn : x.exts.length ≤ 1048576) (hit : itemsOf x.exts ≤ 1048576) :
    Calls Tryz.prog 108 #[.pointer (some ⟨g, 0, none⟩), .int .i64 t] w (LeftA B g ⟨x.ver, dropX t x.exts⟩ w) := by
  obtain ⟨b, m, d, lo', hi', hbox, h2, l3, l4, l5⟩ := h
  have hlt := box_lt hbox
  have hm := h2.len
  have HX := Lib.hid hbox
  obtain ⟨x0, x1, f0, f1⟩ := two_cells hbox
  have HT : Hid (Below w.heap.size w (w.alloc (.cells #[.int .i64 t] 3))) := Lib.hid (alloc_same _ _)
  have HN : Hid (Nums .i64 (w.alloc (.cells #[.int .i64 t] 3)) (some ⟨w.heap.size, 0, none⟩) 1 [t]) := Lib.hid (nums_new w .i64 t 3)
  have HC := Lib.hid (withoutOne_any (c := d) (d := 1) (h2.vals.same HT.out) HN.out (by omega) hit)
  clear h2 hbox
  go_enter Tryz.func108, Tryz.ntmps108
  go_wp2_with fail
  refine HC.out.mono ?_
  rintro e w2 ⟨p, k, r, rfl, ho, hb⟩
  have hs2 := hb.size
  have HB2 : Hid (Below w.heap.size w w2) := Lib.hid (HT.out.trans (hb.mono HT.out.size))
  have HO := Lib.hid ho
  have HX2 := Lib.hid ((HB2.out.block g hlt).trans HX.out)
  clear hb ho x0 x1 f0 f1
  obtain ⟨x0, x1, f0, f1⟩ := two_cells HX2.out
  go_wp2_with fail
  go_end0
  have hs1 := HB2.out.size
  have hsa : (w.alloc (.cells #[.int .i64 t] 3)).heap.size = w.heap.size + 1 := by simp
  have hin := set_inside w2 g 1 (.slice p k r)
  refine ⟨p, k, r, rfl, put_second HX2.out _, fun w9 q hg9 hq0 hq1 => ?_, (Inside.after HB2.out hin).wide (by omega) (Nat.le_refl _)⟩
  have h9 := one_inside hg9
  have hs9 : w2.heap.size ≤ w9.heap.size := by have := h9.size; simpa using this
  rw [hsa] at HO
  exact own_ans (lo := w.heap.size + 1) (hi := w2.heap.size) ((HO.out.lim.aside hin (by omega)).aside h9 (by omega)) (by omega) hs9 (Nat.le_refl _)
set_option maxHeartbeats 4000000 in
set_option maxRecDepth 100000 in
theorem setAnswerVersion_any {B g : Nat} {w : World} {x : Ans} (t : Int) (h : MsgA B g w x) :
    Calls Tryz.prog 107 #[.pointer (some ⟨g, 0, none⟩), .int .i64 t] w (LeftA B g ⟨setV t x.ver, x.exts⟩ w) := by
  obtain ⟨b, m, d, lo', hi', hbox, h2, l3, l4, l5⟩ := h
  have hlt := box_lt hbox
  have H2 := Lib.hid h2
  have HX := Lib.hid hbox
  have HC : Hid (Calls Tryz.prog 62 #[.int .i64 t] w (Told (.bool (inBd t 1 9)) w)) := Lib.hid ((isVersion_any t w).mono fun _ _ ⟨q1, q2⟩ => ⟨q1, q2 ▸ Below.refl _ _⟩)
  cases hv : inBd t 1 9 with
  | true =>
    rw [hv] at HC
    have HE : Hid (setV t x.ver = t) := Lib.hid (if_pos hv)
    clear h2 hbox hv
    go_enter Tryz.func107, Tryz.ntmps107
    go_wp2_with fail
    refine HC.out.mono ?_
    rintro e w2 ⟨rfl, hb⟩
    have hs2 := hb.size
    have HB2 := Lib.hid hb
    have HX2 := Lib.hid ((HB2.out.block g hlt).trans HX.out)
    clear hb
    obtain ⟨x0, x1, f0, f1⟩ := two_cells HX2.out
    go_wp2_with fail
    go_end0
    rw [HE.out]
    have hin := set_inside w2 g 0 (.int .i64 t)
    refine ⟨b, m, d, rfl, put_first HX2.out _, fun w9 q hg9 hq0 hq1 => ?_, (Inside.after HB2.out hin).wide (by omega) (Nat.le_refl _)⟩
    have h9 := one_inside hg9
    have hs9 : w2.heap.size ≤ w9.heap.size := by have := h9.size; simpa using this
    exact own_ans (lo := lo') (hi := hi') (((H2.out.same HB2.out).aside hin (by omega)).aside h9 (by omega)) l4 (by omega) (Nat.le_refl _)
  | false =>
    rw [hv] at HC
    have HE : Hid (setV t x.ver = x.ver) := Lib.hid (if_neg (by rw [hv]; decide))
    clear h2 hbox hv
    go_enter Tryz.func107, Tryz.ntmps107
    go_wp2_with fail
    refine HC.out.mono ?_
    rintro e w2 ⟨rfl, hb⟩
    have hs2 := hb.size
    have HB2 := Lib.hid hb
    have HX2 := Lib.hid ((HB2.out.block g hlt).trans HX.out)
    clear hb
    go_wp2_with fail
    go_end0
    rw [HE.out]
    refine ⟨b, m, d, rfl, HX2.out, fun w9 q hg9 hq0 hq1 => ?_, (Inside.after HB2.out (Inside.refl g (g + 1) _)).wide (by omega) (Nat.le_refl _)⟩
    have h9 := one_inside hg9
    have hs9 : w2.heap.size ≤ w9.heap.size := h9.size
    exact own_ans (lo := lo') (hi := hi') ((H2.out.same HB2.out).aside h9 (by omega)) l4 (by omega) (Nat.le_refl _)
end Go.Proofs.YtcmjadfpifpknaaGreat
namespace Go.Proofs.YtcmjadfpifpknaaGreat
open Go.ChangeShapes Go.WideShapes Go.ChangeAt Go.RowKit
set_option linter.unusedVariables false
set_option linter.unusedSimpArgs false

def heldM (v : Value) : Option (DataW Value × List MemPlace) := some (.held v, [])
/-- The map that a list of kinds and functions makes, the last one first. -/
def edD : List (Int × Value) → DataW Value
  | [] => .map []
  | x :: M => (edD M).put (.int .i64 x.1) (.held x.2)
def findE (k : Int) : List (Int × Value) → Option Value
  | [] => none
  | x :: M => if x.1 = k then some x.2 else findE k M
section
open Go.Maps
theorem edD_isMap : ∀ M, IsMap (edD M)
  | [] => isMap_empty
  | x :: M => (edD_isMap M).put _ _
theorem edD_at {p : Int} (z : DataW Value) : ∀ M : List (Int × Value), (edD M).atKey (.int .i64 p) z = ((findE p M).map DataW.held).getD z
  | [] => by simp [edD, findE, DataW.atKey]
  | x :: M => by
    have ih := edD_at (p := p) z M
    by_cases e : x.1 = p
    · unfold edD findE
      rw [e, atKey_put_same (edD_isMap M) (by simp [WideAt.IsKeyLit]), if_pos rfl]
      rfl
    · unfold edD findE
      rw [atKey_put_other (lit_ne e), ih, if_neg e]
end
/-- Block g is the map of these functions. -/
def EdMap (w : World) (g : Nat) (M : List (Int × Value)) : Prop := w.ownsMap Tryz.prog 3 heldM g M.length (edD M)
theorem EdMap.lt {w : World} {g : Nat} {M : List (Int × Value)} (h : EdMap w g M) : g < w.heap.size := World.ownsMap.lt h
theorem EdMap.same {w w' : World} {g : Nat} {M : List (Int × Value)} (h : EdMap w g M) (hb : Below w.heap.size w w') : EdMap w' g M := World.ownsMap.kept h (grown_below hb none) (by simp)
theorem EdMap.made (w : World) : EdMap (w.alloc (.map #[] 0)) w.heap.size [] := World.ownsMap_made w Tryz.prog 3 heldM
set_option maxRecDepth 100000 in
theorem EdMap.look {w : World} {g : Nat} {M : List (Int × Value)} {p : Int} {t e : TypeId} {z : Value} (h : EdMap w g M) (ht : Tryz.prog.underlying t = some (.map 3 e)) (hz : (zeroValue e).run Tryz.prog w = .ok z w) (hp : (Lit.int .i64 p).wf = true) :
    (Instr.lookup t (.map (some g)) (.int .i64 p) true).run Tryz.prog w = .ok (.tuple #[(findE p M).getD z, .bool (findE p M).isSome]) w := by
  obtain ⟨es, ck, hb, F, hs, hD⟩ := h
  rcases Maps.fit_look true int_keys ht hz hb F (Maps.keyOf_int_mk Tryz.underlying3 hp) with ⟨h1, _, h3⟩ | ⟨e0, y, _, _, hr, hR, hat, _⟩
  · have hn : findE p M = none := by
      cases hf : findE p M with
      | none => rfl
      | some v =>
        have q := h3 (.lit (.bool false))
        rw [← hD, edD_at, hf] at q
        cases q
    rw [hn]
    simpa using h1
  · have hR2 : y = (.held e0.val, []) := by
      unfold heldM at hR
      exact (Option.some.inj hR).symm
    have q := hat (.lit (.bool false))
    rw [← hD, edD_at, hR2] at q
    cases hf : findE p M with
    | none => rw [hf] at q; cases q
    | some v =>
      rw [hf] at q
      injection q with q
      simpa [q] using hr
set_option maxRecDepth 100000 in
theorem EdMap.put {w : World} {g : Nat} {M : List (Int × Value)} {p : Int} {t e : TypeId} {v : Value} (h : EdMap w g M) (ht : Tryz.prog.underlying t = some (.map 3 e)) (hM : M.length < maxLen) (hp : (Lit.int .i64 p).wf = true) :
    ∃ w', (Instr.mapUpdate t (.map (some g)) (.int .i64 p) v).run Tryz.prog w = .ok () w' ∧ EdMap w' g ((p, v) :: M) ∧ w.grownBy w' (some g) :=
  World.ownsMap.update h int_keys ht hM (Maps.keyOf_int_mk Tryz.underlying3 hp) rfl
def hedL : List (Int × Value) := [(6, .func (.func 106) #[] #[]), (3, .func (.func 105) #[] #[]), (2, .func (.func 104) #[] #[]), (1, .func (.func 103) #[] #[])]
theorem hedZ (w : World) : (zeroValue 129).run Tryz.prog w = .ok .nilFunc w := by kernel_rfl
theorem hed_run (w : World) : (Instr.makeMap 94 none).run Tryz.prog w = .ok (.map (some w.heap.size)) (w.alloc (.map #[] 0)) := run_makeMap ..
set_option maxHeartbeats 4000000 in
set_option maxRecDepth 100000 in
theorem helloEdits_any (w : World) : Calls Tryz.prog 61 #[] w fun e w' => e = .returned (.map (some w.heap.size)) ∧ EdMap w' w.heap.size hedL ∧ Below w.heap.size w w' := by
  have hmm := hed_run w
  have h0 := EdMap.made w
  obtain ⟨w1, hr1, h1, hg1⟩ := EdMap.put (p := 1) (v := .func (.func 103) #[] #[]) h0 Tryz.underlying94 (by unfold maxLen; simp) (by decide)
  have hb1 : Below w.heap.size w w1 := Below.grown (alloc_same w (.map #[] 0)) hg1 (by simp) (fun r e => by cases e; exact Nat.le_refl _)
  obtain ⟨w2, hr2, h2, hg2⟩ := EdMap.put (p := 2) (v := .func (.func 104) #[] #[]) h1 Tryz.underlying94 (by unfold maxLen; simp) (by decide)
  have hb2 : Below w.heap.size w w2 := Below.grown hb1 hg2 hb1.size (fun r e => by cases e; exact Nat.le_refl _)
  obtain ⟨w3, hr3, h3, hg3⟩ := EdMap.put (p := 3) (v := .func (.func 105) #[] #[]) h2 Tryz.underlying94 (by unfold maxLen; simp) (by decide)
  have hb3 : Below w.heap.size w w3 := Below.grown hb2 hg3 hb2.size (fun r e => by cases e; exact Nat.le_refl _)
  obtain ⟨w4, hr4, h4, hg4⟩ := EdMap.put (p := 6) (v := .func (.func 106) #[] #[]) h3 Tryz.underlying94 (by unfold maxLen; simp) (by decide)
  have hb4 : Below w.heap.size w w4 := Below.grown hb3 hg4 hb3.size (fun r e => by cases e; exact Nat.le_refl _)
  have HM := Lib.hid h4
  have HB := Lib.hid hb4
  clear h0 h1 h2 h3 h4 hg1 hg2 hg3 hg4 hb1 hb2 hb3 hb4
  go_enter Tryz.func61, Tryz.ntmps61
  go_wp2_with fail
  go_ret
  exact ⟨rfl, HM.out, HB.out⟩
def aedL : List (Int × Value) := [(5, .func (.func 108) #[] #[]), (4, .func (.func 107) #[] #[])]
theorem aedZ (w : World) : (zeroValue 133).run Tryz.prog w = .ok .nilFunc w := by kernel_rfl
theorem aed_run (w : World) : (Instr.makeMap 97 none).run Tryz.prog w = .ok (.map (some w.heap.size)) (w.alloc (.map #[] 0)) := run_makeMap ..
set_option maxHeartbeats 4000000 in
set_option maxRecDepth 100000 in
theorem answerEdits_any (w : World) : Calls Tryz.prog 64 #[] w fun e w' => e = .returned (.map (some w.heap.size)) ∧ EdMap w' w.heap.size aedL ∧ Below w.heap.size w w' := by
  have hmm := aed_run w
  have h0 := EdMap.made w
  obtain ⟨w1, hr1, h1, hg1⟩ := EdMap.put (p := 4) (v := .func (.func 107) #[] #[]) h0 Tryz.underlying97 (by unfold maxLen; simp) (by decide)
  have hb1 : Below w.heap.size w w1 := Below.grown (alloc_same w (.map #[] 0)) hg1 (by simp) (fun r e => by cases e; exact Nat.le_refl _)
  obtain ⟨w2, hr2, h2, hg2⟩ := EdMap.put (p := 5) (v := .func (.func 108) #[] #[]) h1 Tryz.underlying97 (by unfold maxLen; simp) (by decide)
  have hb2 : Below w.heap.size w w2 := Below.grown hb1 hg2 hb1.size (fun r e => by cases e; exact Nat.le_refl _)
  have HM := Lib.hid h2
  have HB := Lib.hid hb2
  clear h0 h1 h2 hg1 hg2 hb1 hb2
  go_enter Tryz.func64, Tryz.ntmps64
  go_wp2_with fail
  go_ret
  exact ⟨rfl, HM.out, HB.out⟩
end Go.Proofs.YtcmjadfpifpknaaGreat
namespace Go.Proofs.YtcmjadfpifpknaaGreat
open Go.ChangeShapes Go.WideShapes Go.ChangeAt Go.RowKit
set_option linter.unusedVariables false
set_option linter.unusedSimpArgs false

theorem OwnV.head {tO tI : TypeId} {w : World} {B n c : Nat} {a : Option Addr} {l : List Vl} (h : OwnV tO tI w B a n c l) (hn : 0 < n) : ∃ g, a = some ⟨g, 0, none⟩ ∧ B ≤ g ∧ g < w.heap.size := by
  obtain ⟨hs, h1, h2⟩ := h
  exact h1.head hn
set_option maxHeartbeats 4000000 in
set_option maxRecDepth 100000 in
theorem copyExts_any {a : Option Addr} {n c : Nat} {l : List Vl} {w : World} (h : Vals w a n l) (hn : n ≤ 1048576) (hit : itemsOf l ≤ 1048576) :
    Calls Tryz.prog 60 #[.slice a n c] w (fun e w' => ∃ g d, e = .returned (.slice (some ⟨g, 0, none⟩) n d) ∧ OwnV 125 3 w' w.heap.size (some ⟨g, 0, none⟩) n d l ∧ Below w.heap.size w w') := by
  have H := Lib.hid h
  have hln := Lib.hid h.len
  obtain ⟨i0, hi, hz0, hz1, hz2⟩ := info_parts infoExtS
  have HI := Lib.hid (And.intro hi (And.intro hz0 (And.intro hz1 hz2)))
  clear h hi hz0 hz1 hz2
  go_enter Tryz.func60, Tryz.ntmps60
  go_wp2_with (with_reducible refine wpList_make_own _ rfl (.const (.int .i64 0)) (.tmp 7) 25 rfl w.heap.size 125 i0 (.agg #[.int .i64 0, .slice none 0 0]) 2 Tryz.underlying25 HI.out.1 HI.out.2.1 HI.out.2.2.1 .i64 .i64 _ n rfl rfl rfl ?c1 ?c2 ?c3 ?_)
  case c1 => rw [HI.out.2.2.2]; omega
  case c2 => unfold maxLen; omega
  case c3 => exact Nat.le_refl _
  intro w1 hown hgrow
  have hb1 : Below w.heap.size w w1 := (Below.refl _ w).grown hgrow (Nat.le_refl _) (fun _ e => by cases e)
  have HO : Hid (OwnV 125 3 w1 w.heap.size (some ⟨w.heap.size, 0, none⟩) 0 n (l.take 0)) := Lib.hid ⟨[], ⟨rfl, hown⟩, by simp, fun j g x h => by simp at h, fun i j h k _ h' => by simp at h'⟩
  have HB := Lib.hid hb1
  clear hown hgrow hb1
  go_wp2_with fail
  go_loopw [3, 11] (fun v i wr => ∃ (j g d : Nat), j ≤ n ∧ i = .int .i64 j ∧ v = .slice (some ⟨g, 0, none⟩) j d ∧ OwnV 125 3 wr w.heap.size (some ⟨g, 0, none⟩) j d (l.take j) ∧ Below w.heap.size w wr) (fun _ i _ => n - (intOf i).toNat)
  case atStart => exact ⟨0, _, _, Nat.zero_le _, rfl, rfl, HO.out, HB.out⟩
  case round =>
    obtain ⟨j, g, d, hj, rfl, rfl, hown, hb⟩ := hrel
    have HO2 := Lib.hid hown
    have HB2 := Lib.hid hb
    clear hown hb
    by_cases hlt : j < n
    · obtain ⟨bb, o, p, pm, pd, k, y, rfl, hx, hc0, hc1, hN, hr⟩ := (H.out.same HB2.out).at_ hlt
      have hsz := HB2.out.size
      have hym := hN.len
      have hyi := itemsOf_mem hx
      dsimp only at hyi
      have HF : Hid (l.take (j + 1) = l.take j ++ [⟨k, y⟩]) := Lib.hid (by rw [List.take_add_one, hx]; rfl)
      have HW : Hid (Below wr.heap.size wr (wr.alloc (.cells #[.int .i64 k, .slice p pm pd] 125))) := Lib.hid (alloc_same _ _)
      have hs2 : wr.heap.size ≤ (wr.alloc (.cells #[.int .i64 k, .slice p pm pd] 125)).heap.size := HW.out.size
      have HC := Lib.hid (copyExt_any k p pm pd y _ (hN.same HW.out) (by omega))
      unfold MadeX at HC
      clear hx hN
      go_wp2_with fail
      refine HC.out.mono ?_
      rintro e3 w3 ⟨q3, m3, d3, rfl, ho3, hb3⟩
      have HO3 := Lib.hid ho3
      have HB4 := Lib.hid (HW.out.trans (hb3.mono hs2))
      have hs4 := HB4.out.size
      have HNN : Hid (Items Vh.enc 2 (w3.alloc (.cells #[.int .i64 k, .slice q3 m3 d3] 125)) (some ⟨w3.heap.size, 0, none⟩) 1 [⟨k, q3, m3, d3⟩]) := Lib.hid (items_new Vh.enc_len w3 ⟨k, q3, m3, d3⟩ 125)
      clear hb3 hc0 hc1 ho3
      go_wp2_with (at_builtin; refine wpl_appV (S := wr.heap.size) (B := w.heap.size) _ rfl (.tmp 15) (.tmp 18) 25 rfl 125 3 i0 (.agg #[.int .i64 0, .slice none 0 0]) 32 Tryz.underlying25 HI.out.1 HI.out.2.1 HI.out.2.2.1 HI.out.2.2.2 rfl rfl ((HO2.out.lim.same HB4.out).same (alloc_same _ _)) rfl HNN.out ((HO3.out.lower (by omega)).alloc _) (fun ad e => by have := (HO3.out.span ad e).1; omega) (by omega) ?c4 ?c5 ?_)
      case c4 => omega
      case c5 => simp; omega
      intro a4 c4 w4 ho4 hb4
      obtain ⟨g4, rfl, _, _⟩ := ho4.head (by omega)
      have HO4 : Hid (OwnV 125 3 w4 w.heap.size (some ⟨g4, 0, none⟩) (j + 1) c4 (l.take (j + 1))) := Lib.hid (by rw [HF.out]; exact ho4)
      have HB5 : Hid (Below w.heap.size w w4) := Lib.hid ((HB2.out.trans (HB4.out.mono hsz)).trans ((((alloc_same _ _).mono (Nat.le_trans hsz hs4))).trans hb4))
      clear ho4 hb4
      go_wp2_with fail
      go_roundw
      case rel => exact ⟨j + 1, g4, c4, by omega, by go_num, rfl, HO4.out, HB5.out⟩
      case measure => simp [intOf]; omega
    · obtain rfl : j = n := by omega
      go_wp2
      go_ret
      have h1 := HO2.out
      rw [List.take_of_length_le (by rw [hln.out]; omega)] at h1
      exact ⟨_, _, rfl, h1, HB2.out⟩
end Go.Proofs.YtcmjadfpifpknaaGreat
