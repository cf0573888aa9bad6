/- A version added to a list and one taken away, by the program. -/
import Derived.Test.YtejnghnmmeiioaaLst
namespace Go.Proofs.Ytejnghnmmeiioaa
open Go.ChangeShapes Go.WideShapes Go.ChangeAt Go.RowKit
set_option linter.unusedVariables false
set_option linter.unusedSimpArgs false

theorem addV_few (l : List Int) (v : Int) : (addV l v).length ≤ l.length + 9 := by
  unfold addV
  split
  · exact Nat.le_trans (lw_len _) (by omega)
  · omega
theorem dropV_few (l : List Int) (v : Int) : (dropV l v).length ≤ l.length + 9 := by
  unfold dropV
  split
  · exact Nat.le_trans (lw_len _) (by omega)
  · omega
/-- What a function leaves that makes a list of integers and says whether it is another one. -/
def MadeB (t : TypeId) (B : Nat) (l : List Int) (ok : Bool) (w : World) (e : Ending) (w' : World) : Prop :=
  ∃ a n c, e = .returned (.tuple #[.slice a n c, .bool ok]) ∧ Own .i64 t w' B a n c l ∧ Below B w w'
set_option maxRecDepth 100000 in
set_option maxHeartbeats 2000000 in
theorem addVersion_any {a : Option Addr} {n c : Nat} {l : List Int} (v : Int) {w : World} (h : Nums .i64 w a n l) (hn : n ≤ 1048576000) :
    Calls Try.prog 18 #[.slice a n c, .int .i64 v] w (MadeB 3 w.heap.size (addV l v) (addsV l v) w) := by
  have H := Lib.hid (versionsOf_any (c := c) h)
  have HC := Lib.hid (copyList_any (c := c) h (by omega))
  have hlt := word_lt l
  unfold MadeB
  by_cases h0 : word l = 0
  · obtain ⟨e1, e2⟩ := addV_no (l := l) (v := v) (fun q => q.1 h0)
    rw [e1, e2]
    rw [h0] at H
    clear h h0 e1 e2 hlt
    go_enter Try.func18, Try.ntmps18
    go_wp2_with fail
    refine H.out.mono ?_
    rintro e w' ⟨rfl, rfl⟩
    go_wp2_with fail
    refine HC.out.mono ?_
    rintro e w1 ⟨a1, n1, c1, rfl, ho1, hb1⟩
    have HO1 := Lib.hid ho1
    have HB1 := Lib.hid hb1
    clear ho1 hb1
    go_wp2_with fail
    go_ret2
    exact ⟨_, _, _, rfl, HO1.out, HB1.out⟩
  obtain ⟨k, hk⟩ : ∃ k : Nat, word l = k := ⟨_, rfl⟩
  have hlw : lw k = l := by rw [← hk]; exact lw_word h0
  have HH := has_any (k := k) (by omega) v
  rw [hlw] at HH
  have hk0 : ((k : Int) == 0) = false := by
    rw [← hk]
    simpa using h0
  rw [hk] at H
  have HV := isVersion_any v
  by_cases hr : 1 ≤ v ∧ v ≤ 9
  · rw [inB_yes hr.1 hr.2] at HV
    by_cases hm : v ∈ l
    · obtain ⟨e1, e2⟩ := addV_no (l := l) (v := v) (fun q => q.2.2 hm)
      rw [e1, e2]
      rw [decide_eq_true hm] at HH
      clear h h0 e1 e2 hlt hk hlw hr hm
      go_enter Try.func18, Try.ntmps18
      go_wp2_with fail
      refine H.out.mono ?_
      rintro e w' ⟨rfl, rfl⟩
      go_wp2_with fail
      refine (HV _).mono ?_
      rintro e w' ⟨rfl, rfl⟩
      go_wp2_with fail
      refine (HH _).mono ?_
      rintro e w' ⟨rfl, rfl⟩
      go_wp2_with fail
      refine HC.out.mono ?_
      rintro e w1 ⟨a1, n1, c1, rfl, ho1, hb1⟩
      have HO1 := Lib.hid ho1
      have HB1 := Lib.hid hb1
      clear ho1 hb1
      go_wp2_with fail
      go_ret2
      exact ⟨_, _, _, rfl, HO1.out, HB1.out⟩
    · obtain ⟨e1, e2⟩ := addV_yes h0 hr hm
      rw [e1, e2]
      rw [decide_eq_false hm] at HH
      have HO := Lib.hid (word_or (w := k) (by omega) hr)
      have HLt := Lib.hid (or_lt (w := k) (by omega) hr)
      obtain ⟨p, hp⟩ : ∃ p : Nat, 2 ^ (v.toNat - 1) = p := ⟨_, rfl⟩
      have HB := Lib.hid (bitOf_val hr hp)
      rw [hk, hp]
      rw [hp] at HO HLt
      obtain ⟨q, hq⟩ : ∃ q : Nat, (k ||| p) = q := ⟨_, rfl⟩
      rw [hq] at HO HLt
      rw [hq]
      have ho := HO.out
      clear h h0 e1 e2 hlt hk hlw hr hm hp hq HC
      go_enter Try.func18, Try.ntmps18
      go_wp2_with fail
      refine H.out.mono ?_
      rintro e w' ⟨rfl, rfl⟩
      go_wp2_with fail
      refine (HV _).mono ?_
      rintro e w' ⟨rfl, rfl⟩
      go_wp2_with fail
      refine (HH _).mono ?_
      rintro e w' ⟨rfl, rfl⟩
      go_wp2_with fail
      refine (HB.out _).mono ?_
      rintro e w' ⟨rfl, rfl⟩
      go_wp2_with fail
      refine (list_any HLt.out _).mono ?_
      rintro e w1 ⟨a1, n1, c1, rfl, ho1, hb1⟩
      have HO1 := Lib.hid ho1
      have HB1 := Lib.hid hb1
      clear ho1 hb1
      go_wp2_with fail
      go_ret2
      exact ⟨_, _, _, rfl, HO1.out, HB1.out⟩
  · obtain ⟨e1, e2⟩ := addV_no (l := l) (v := v) (fun q => hr q.2.1)
    rw [e1, e2]
    rw [inB_no hr] at HV
    clear h h0 e1 e2 hlt hk hlw hr HH
    go_enter Try.func18, Try.ntmps18
    go_wp2_with fail
    refine H.out.mono ?_
    rintro e w' ⟨rfl, rfl⟩
    go_wp2_with fail
    refine (HV _).mono ?_
    rintro e w' ⟨rfl, rfl⟩
    go_wp2_with fail
    refine HC.out.mono ?_
    rintro e w1 ⟨a1, n1, c1, rfl, ho1, hb1⟩
    have HO1 := Lib.hid ho1
    have HB1 := Lib.hid hb1
    clear ho1 hb1
    go_wp2_with fail
    go_ret2
    exact ⟨_, _, _, rfl, HO1.out, HB1.out⟩
set_option maxRecDepth 100000 in
set_option maxHeartbeats 2000000 in
theorem dropVersion_any {a : Option Addr} {n c : Nat} {l : List Int} (v : Int) {w : World} (h : Nums .i64 w a n l) (hn : n ≤ 1048576000) :
    Calls Try.prog 19 #[.slice a n c, .int .i64 v] w (MadeB 3 w.heap.size (dropV l v) (dropsV l v) w) := by
  have H := Lib.hid (versionsOf_any (c := c) h)
  have HC := Lib.hid (copyList_any (c := c) h (by omega))
  have hlt := word_lt l
  unfold MadeB
  obtain ⟨k, hk⟩ : ∃ k : Nat, word l = k := ⟨_, rfl⟩
  have HH := has_any (k := k) (by omega) v
  rw [hk] at H
  by_cases hm : word l ≠ 0 ∧ v ∈ l
  · obtain ⟨h0, hm⟩ := hm
    have hr := in_range h0 hm
    have hlw : lw k = l := by rw [← hk]; exact lw_word h0
    rw [hlw, decide_eq_true hm] at HH
    obtain ⟨p, hp⟩ : ∃ p : Nat, 2 ^ (v.toNat - 1) = p := ⟨_, rfl⟩
    have HB := Lib.hid (bitOf_val hr hp)
    have hs := word_single h0 hm
    rw [hk, hp] at hs
    by_cases hl1 : l.length = 1
    · obtain ⟨e1, e2⟩ := dropV_no (l := l) (v := v) (fun q => q.2.2 hl1)
      rw [e1, e2]
      obtain rfl := hs.2 hl1
      clear h h0 e1 e2 hlt hk hlw hr hm hp hs hl1
      go_enter Try.func19, Try.ntmps19
      go_wp2_with fail
      refine H.out.mono ?_
      rintro e w' ⟨rfl, rfl⟩
      go_wp2_with fail
      refine (HH _).mono ?_
      rintro e w' ⟨rfl, rfl⟩
      go_wp2_with fail
      refine (HB.out _).mono ?_
      rintro e w' ⟨rfl, rfl⟩
      go_wp2_with fail
      refine HC.out.mono ?_
      rintro e w1 ⟨a1, n1, c1, rfl, ho1, hb1⟩
      have HO1 := Lib.hid ho1
      have HB1 := Lib.hid hb1
      clear ho1 hb1
      go_wp2_with fail
      go_ret2
      exact ⟨_, _, _, rfl, HO1.out, HB1.out⟩
    · obtain ⟨e1, e2⟩ := dropV_yes h0 hm hl1
      rw [e1, e2]
      have hkp : k ≠ p := fun q => hl1 (hs.1 q)
      have hne : ((k : Int) == (p : Int)) = false := beq_false_of_ne (fun q => hkp (by omega))
      have hne2 : (k == p) = false := beq_false_of_ne hkp
      have HO := Lib.hid (word_drop (w := k) (by omega) hr)
      rw [hk, hp]
      rw [hp] at HO
      have HLt : Hid ((k &&& (511 ^^^ p)) < 512) := Lib.hid (drop_lt (by omega) _)
      obtain ⟨q, hq⟩ : ∃ q : Nat, (k &&& (511 ^^^ p)) = q := ⟨_, rfl⟩
      rw [hq] at HO HLt
      rw [hq]
      have ho := HO.out
      clear h h0 e1 e2 hlt hk hlw hr hm hp hq hs hl1 HC
      go_enter Try.func19, Try.ntmps19
      go_wp2_with fail
      refine H.out.mono ?_
      rintro e w' ⟨rfl, rfl⟩
      go_wp2_with fail
      refine (HH _).mono ?_
      rintro e w' ⟨rfl, rfl⟩
      go_wp2_with fail
      refine (HB.out _).mono ?_
      rintro e w' ⟨rfl, rfl⟩
      go_wp2_with fail
      refine (HB.out _).mono ?_
      rintro e w' ⟨rfl, rfl⟩
      go_wp2_with fail
      refine (list_any HLt.out _).mono ?_
      rintro e w1 ⟨a1, n1, c1, rfl, ho1, hb1⟩
      have HO1 := Lib.hid ho1
      have HB1 := Lib.hid hb1
      clear ho1 hb1
      go_wp2_with fail
      go_ret2
      exact ⟨_, _, _, rfl, HO1.out, HB1.out⟩
  · obtain ⟨e1, e2⟩ := dropV_no (l := l) (v := v) (fun q => hm ⟨q.1, q.2.1⟩)
    rw [e1, e2]
    have hno : ¬ v ∈ lw k := fun q => by
      by_cases h0 : word l = 0
      · rw [← hk, h0] at q
        have : lw 0 = [] := by decide
        rw [this] at q
        cases q
      · rw [← hk, lw_word h0] at q
        exact hm ⟨h0, q⟩
    rw [decide_eq_false hno] at HH
    clear h e1 e2 hlt hk hm hno
    go_enter Try.func19, Try.ntmps19
    go_wp2_with fail
    refine H.out.mono ?_
    rintro e w' ⟨rfl, rfl⟩
    go_wp2_with fail
    refine (HH _).mono ?_
    rintro e w' ⟨rfl, rfl⟩
    go_wp2_with fail
    refine HC.out.mono ?_
    rintro e w1 ⟨a1, n1, c1, rfl, ho1, hb1⟩
    have HO1 := Lib.hid ho1
    have HB1 := Lib.hid hb1
    clear ho1 hb1
    go_wp2_with fail
    go_ret2
    exact ⟨_, _, _, rfl, HO1.out, HB1.out⟩
end Go.Proofs.Ytejnghnmmeiioaa
