/- What an append leaves of the list that it was handed: the old list stays what it was, also where the new one lies in the same block. No function of the program is spoken of. A list of versions as a word, by the program: one version's bit, whether it is there, the whole list. The greatest version of a word, how many bits it has, by the program: the greatest common version of two lists, the runs of one. The versions of a word as a list, by the program; a version added and one taken away. -/
import Derived.Test.YtcmjadfpifpknaaG14
import Derived.Test.YtcmjadfpifpknaaG13
import Derived.Test.YtcmjadfpifpknaaG11
import Derived.RegionTactic
import Derived.Handy
import Derived.Lib.Strings
import Derived.Lib.Small
import Derived.Lib.Tables
import Derived.Lib.BitFns
import Derived.Deep.QuietTactic
import Derived.BigQuiet
namespace Go.Proofs.Ytcmjadfpifpknaa
open Go.ChangeShapes Go.WideShapes Go.ChangeAt Go.RowKit
set_option linter.unusedVariables false

section
variable {tO tI : TypeId} {w w' : World} {B S T n c : Nat} {a : Option Addr} {l : List Vl}
/-- The list of values is the call's own, in blocks from B on, none of them from S to below T. -/
def OwnVG (S T : Nat) (tO tI : TypeId) (w : World) (B : Nat) (a : Option Addr) (n c : Nat) (l : List Vl) : Prop :=
  ∃ hs : List Vh, OwnI Vh.enc 2 tO w B a n c hs ∧ RowsV tI w B a hs l ∧ (∀ ad, a = some ad → ad.block < S ∨ T ≤ ad.block) ∧ ∀ (j : Nat) (h : Vh) (ad : Addr), hs[j]? = some h → h.p = some ad → ad.block < S ∨ T ≤ ad.block
theorem OwnVG.ownV (h : OwnVG S T tO tI w B a n c l) : OwnV tO tI w B a n c l := by
  obtain ⟨hs, h1, h2, _⟩ := h
  exact ⟨hs, h1, h2⟩
theorem OwnVG.far {row : Option Nat} (h : OwnVG S T tO tI w B a n c l) (hg : w.grownBy w' row) (hr : ∀ r, row = some r → r < B ∨ (S ≤ r ∧ r < T)) : OwnVG S T tO tI w' B a n c l := by
  obtain ⟨hs, h1, h2, h3, h4⟩ := h
  have hne : ∀ x, B ≤ x → (x < S ∨ T ≤ x) → row ≠ some x := fun x hx hy e => by
    rcases hr x e with q | q <;> omega
  refine ⟨hs, h1.far hg fun ad e => hne _ (h1.span ad e).1 (h3 ad e), ⟨h2.1, fun j g x hk hx => ?_, h2.2.2⟩, h3, h4⟩
  obtain ⟨e, ho, hd⟩ := h2.2.1 j g x hk hx
  exact ⟨e, ho.far hg fun ad e => hne _ (ho.span ad e).1 (h4 j g ad hk e), hd⟩
theorem OwnVG.same (h : OwnVG S T tO tI w B a n c l) (hb : Below w.heap.size w w') : OwnVG S T tO tI w' B a n c l := h.far (grown_below hb none) fun r e => by cases e
end
section
variable {P : Program} (w : World)
/-- The row that was handed to an append of one element of two cells stays what it was. -/
theorem old_stays {t ty e : TypeId} {i : TypeInfo} {z : Value} {bytes : Nat} (ht : P.underlying t = some (.slice e)) (hi : P.info? e = some i) (hz : i.zero = some z) (hsize : i.size = 2) (hby : i.bytes = bytes)
    {B n c dd : Nat} {a : Option Addr} {ad : Addr} {xs news : List Value} {v' : Value} {w' : World} (ho : w.ownsRow B e 2 (.slice a n c) n xs) (hl : news.length = 2) (hnews : ∀ j u, news[j]? = some u → w.cell? (ad.add j) = some u) (h1 : ∀ u ∈ news, u.oneCell' = true)
    (hbytes : (n + 1) * bytes ≤ 140737488355328) (h63 : n + 1 ≤ maxLen)
    (hr : (Builtin.append_ #[t, t] ty #[.slice a n c, .slice (some ad) 1 dd]).run P w = .ok v' w') : w'.ownsRow B e 2 (.slice a n c) n xs := by
  have hs63 : n + 1 ≤ 9223372036854775807 := by unfold maxLen at h63; omega
  rcases ho.2 with hn | ⟨g, cap, cur, heq, hbg, hg, hnc, hcm, hcs, htake⟩
  · exact ⟨ho.1, .inl hn⟩
  · injection heq with e1 _ e3
    subst e1
    subst e3
    have hlt : g < w.heap.size := (Array.getElem?_eq_some_iff.1 hg).1
    by_cases hroom : n + 1 ≤ c
    · rw [run_append_room (P := P) w t ty e i ht hi g n c cur hg ad 1 dd news (by rw [hsize]; exact hl) hnews h1 hroom (by rw [hsize, hl, hcs]; omega)] at hr
      injection hr with _ hw
      subst hw
      refine ⟨ho.1, .inr ⟨g, c, _, rfl, hbg, setRow_heap w g cur _ e _ hg, hnc, hcm, ?_, ?_⟩⟩
      · have : n * 2 + 2 ≤ cur.size := by rw [hcs]; omega
        rw [hsize]
        simp only [List.size_toArray, List.length_append, List.length_take, List.length_drop, Array.length_toList, hl]
        omega
      · rw [hsize, htake, List.append_assoc]
        exact (congrArg (fun q => List.take q _) ho.1.symm).trans List.take_left
    · rw [run_append_grow (P := P) w t ty e i z ht hi hz ⟨g, 0, none⟩ n c xs (by rw [hsize]; exact ho.1) (ho.cells (g := g) rfl) ad 1 dd news (by rw [hsize]; exact hl) hnews (by omega) (by omega) (by rw [hby]; exact growslice_fits (by omega) hbytes)] at hr
      injection hr with _ hw
      subst hw
      exact ⟨ho.1, .inr ⟨g, c, cur, rfl, hbg, (Below.heap_alloc w.drew _ g hlt).trans hg, hnc, hcm, hcs, htake⟩⟩
/-- An extension without a Body is appended to a list of the call's own. -/
theorem run_appBoth (t ty e tI : TypeId) (i : TypeInfo) (z : Value) (bytes : Nat) (ht : P.underlying t = some (.slice e)) (hi : P.info? e = some i) (hz : i.zero = some z) (hsize : i.size = 2) (hby : i.bytes = bytes) (hzs : z.cells.size = 2)
    {S B n c b o dd : Nat} {a : Option Addr} {l : List Vl} {k : Int} (ho : OwnVB S e tI w B a n c l) (hn : Items Vh.enc 2 w (some ⟨b, o, none⟩) 1 [⟨k, none, 0, 0⟩])
    (hbytes : (n + 1) * bytes ≤ 140737488355328) (h63 : n + 1 ≤ maxLen) (hB : B ≤ w.heap.size) :
    ∃ a' c' w', (Builtin.append_ #[t, t] ty #[.slice a n c, .slice (some ⟨b, o, none⟩) 1 dd]).run P w = .ok (.slice a' (n + 1) c') w' ∧ OwnVG S w.heap.size e tI w' B a' (n + 1) c' (l ++ [⟨k, []⟩]) ∧ OwnVB S e tI w' B a n c l ∧ Inside B S w w' := by
  obtain ⟨hs, h1, h2, h3⟩ := ho
  have hone : ∀ u ∈ flatOf Vh.enc [(⟨k, none, 0, 0⟩ : Vh)], u.oneCell' = true := fun u hu => by
    obtain ⟨x, _, hx⟩ := List.mem_flatMap.1 hu
    exact Vh.cells x u hx
  obtain ⟨v', w', hr, q1, q2, _, q3⟩ := run_append_own_at (P := P) w B t ty e i z 2 bytes ht hi hz hsize hby hzs (by omega) (.slice a n c) n (flatOf Vh.enc hs) h1.2 ⟨b, o, none⟩ 1 dd (flatOf Vh.enc [⟨k, none, 0, 0⟩]) (by rw [flatOf_len Vh.enc_len]; rfl) (items_flat Vh.enc_len (by omega) hn) hone h63 hbytes hB
  have q0 := old_stays (P := P) (dd := dd) w ht hi hz hsize hby h1.2 (by rw [flatOf_len Vh.enc_len]; rfl) (items_flat Vh.enc_len (by omega) hn) hone hbytes h63 hr
  rw [← flatOf_app] at q1
  have hl : (hs ++ [(⟨k, none, 0, 0⟩ : Vh)]).length = n + 1 := by rw [List.length_append, h1.1]; rfl
  have hin : Inside B S w w' := Inside.row q2 fun r er => by
    obtain ⟨ad, e1, rfl⟩ := block_of er
    exact ⟨(h1.span ad e1).1, h3.1 ad e1⟩
  have hold : OwnVB S e tI w' B a n c l := ⟨hs, ⟨h1.1, q0⟩, ⟨h2.1, fun j v x hj hx => by
    obtain ⟨e1, ho1, hd1⟩ := h2.2.1 j v x hj hx
    exact ⟨e1, ho1.beside q2 hd1, hd1⟩, h2.2.2⟩, h3⟩
  rcases q1.2 with ⟨rfl, hn'⟩ | ⟨g, cap, cur, rfl, hrest⟩
  · omega
  · have hgb : (∃ bd, a = some bd ∧ bd.block = g) ∨ g = w.heap.size := by
      rcases q3 with e | e
      · left
        cases ha : a with
        | none => rw [ha] at e; simp [Value.ownBlock] at e
        | some bd => rw [ha] at e; simp only [Value.ownBlock, Option.some.injEq] at e; exact ⟨bd, rfl, e.symm⟩
      · right
        simpa [Value.ownBlock] using e
    refine ⟨_, cap, w', hr, ⟨_, ⟨hl, q1⟩, ⟨by rw [List.length_append, List.length_append, h2.1]; rfl, fun j v x hj hx => ?_, fun j j' v v' hjj hj hj' ad bd ha hb => ?_⟩, fun ad e => ?_, fun j v ad hj e => ?_⟩, hold, hin⟩
    · rcases Nat.lt_or_ge j hs.length with q | q
      · rw [List.getElem?_append_left q] at hj
        rw [List.getElem?_append_left (by rw [← h2.1]; exact q)] at hx
        obtain ⟨e1, ho1, hd1⟩ := h2.2.1 j v x hj hx
        refine ⟨e1, ho1.beside q2 hd1, fun ad bd ha hb => ?_⟩
        cases hb
        rcases hgb with ⟨cd, hc, e⟩ | e
        · have := hd1 ad cd ha hc
          rw [e] at this
          exact this
        · have := (h2.lt hj ha).2
          dsimp only
          omega
      · obtain rfl : j = hs.length := by have := lt_of_some hj; rw [List.length_append] at this; simp at this; omega
        rw [List.getElem?_append_right (Nat.le_refl _), Nat.sub_self] at hj
        rw [List.getElem?_append_right (by rw [h2.1]; exact Nat.le_refl _), h2.1, Nat.sub_self] at hx
        cases hj
        cases hx
        exact ⟨rfl, Own.nil, fun ad bd ha hb => by cases ha⟩
    · have hjl : j < hs.length := by have := lt_of_some hj'; rw [List.length_append] at this; simp at this; omega
      rw [List.getElem?_append_left hjl] at hj
      rcases Nat.lt_or_ge j' hs.length with q | q
      · rw [List.getElem?_append_left q] at hj'
        exact h2.2.2 j j' v v' hjj hj hj' ad bd ha hb
      · obtain rfl : j' = hs.length := by have := lt_of_some hj'; rw [List.length_append] at this; simp at this; omega
        rw [List.getElem?_append_right (Nat.le_refl _), Nat.sub_self] at hj'
        cases hj'
        cases hb
    · cases e
      rcases hgb with ⟨bd, hb, e2⟩ | e2
      · left
        have := h3.1 bd hb
        dsimp only
        omega
      · right
        dsimp only
        omega
    · left
      rcases Nat.lt_or_ge j hs.length with q | q
      · rw [List.getElem?_append_left q] at hj
        exact h3.2 j v ad hj e
      · obtain rfl : j = hs.length := by have := lt_of_some hj; rw [List.length_append] at this; simp at this; omega
        rw [List.getElem?_append_right (Nat.le_refl _), Nat.sub_self] at hj
        cases hj
        cases e
end
theorem wpl_appBoth {P : Program} {w : World} {ops : Array Oper} {rest : List Oper} {o : Oper} {act : Act} {Q : Exit → Act → World → Prop} (hgd : o.guard = none) (q x : Operand) (t : TypeId)
    (ho : o.op = .call { callee := .builtin .append, args := #[q, x], argTypes := #[t, t] })
    (e tI : TypeId) (i : TypeInfo) (z : Value) (bytes : Nat) (ht : P.underlying t = some (.slice e)) (hi : P.info? e = some i) (hz : i.zero = some z) (hsize : i.size = 2) (hby : i.bytes = bytes) (hzs : z.cells.size = 2)
    {S B n c b off dd : Nat} {a : Option Addr} {l : List Vl} {k : Int} (hq : act.eval q = .slice a n c) (hown : OwnVB S e tI w B a n c l) (hx : act.eval x = .slice (some ⟨b, off, none⟩) 1 dd) (hnew : Items Vh.enc 2 w (some ⟨b, off, none⟩) 1 [⟨k, none, 0, 0⟩])
    (hb1 : 0 < bytes) (hbytes : (n + 1) * bytes ≤ 140737488355328) (hB : B ≤ w.heap.size)
    (h : ∀ a' c' w', OwnVG S w.heap.size e tI w' B a' (n + 1) c' (l ++ [⟨k, []⟩]) → OwnVB S e tI w' B a n c l → Inside B S w w' → wpList P ops Q rest (act.put o.dst (.slice a' (n + 1) c')) w') : wpList P ops Q (o :: rest) act w := by
  refine wpList_plain hgd fun K hK => ?_
  have h63 : n + 1 ≤ maxLen := by
    have := Nat.mul_le_mul_left (n + 1) hb1
    unfold maxLen
    omega
  obtain ⟨a', c', w', hr, h2, h3, h4⟩ := run_appBoth (P := P) (dd := dd) w t o.type e tI i z bytes ht hi hz hsize hby hzs hown hnew hbytes h63 hB
  unfold Oper.wp execOp
  simp only [ho, resolve, invoke, builtin, Sem.run_bind, Sem.run_pure, Result.andThen_ok, List.map_toArray, List.map_cons, List.map_nil, hq, hx, hr]
  exact hK _ _ (h a' c' w' h2 h3 h4)
end Go.Proofs.Ytcmjadfpifpknaa
namespace Go.Proofs.Ytcmjadfpifpknaa
open Go.ChangeShapes Go.WideShapes Go.ChangeAt Go.RowKit
set_option linter.unusedVariables false
set_option linter.unusedSimpArgs false

theorem told_is {f : Nat} {args : Array Value} {v : Value} {w : World} (h : Calls Try.prog f args w fun e w' => e = .returned v ∧ w = w') : Calls Try.prog f args w (Told v w) :=
  h.mono fun _ _ ⟨h1, h2⟩ => ⟨h1, h2 ▸ Below.refl _ _⟩
theorem isVersion_any (n : Int) (w : World) : Calls Try.prog 74 #[.int .i64 n] w fun e w' => e = .returned (.bool (inBd n 1 9)) ∧ w' = w := by
  have H := inR_b n 1 9
  go_enter Try.func74, Try.ntmps74
  go_wp2_with (go_at_call 82; refine (H _).mono ?_; rintro e w' ⟨rfl, rfl⟩)
  go_ret
  exact ⟨rfl, rfl⟩
theorem bitOf_any (v : Int) (h : 1 ≤ v ∧ v ≤ 9) (w : World) : Calls Try.prog 77 #[.int .i64 v] w fun e w' => e = .returned (.int .u16 ((2 ^ (v.toNat - 1) : Nat) : Int)) ∧ w' = w := by
  have h9 : v = 1 ∨ v = 2 ∨ v = 3 ∨ v = 4 ∨ v = 5 ∨ v = 6 ∨ v = 7 ∨ v = 8 ∨ v = 9 := by omega
  clear h
  rcases h9 with rfl | rfl | rfl | rfl | rfl | rfl | rfl | rfl | rfl <;> (go_enter Try.func77, Try.ntmps77; go_wp2; go_ret; exact ⟨rfl, rfl⟩)
theorem bitOf_val {v : Int} {p : Nat} (h : 1 ≤ v ∧ v ≤ 9) (hp : 2 ^ (v.toNat - 1) = p) (w : World) : Calls Try.prog 77 #[.int .i64 v] w fun e w' => e = .returned (.int .u16 (p : Int)) ∧ w' = w := by
  rw [← hp]; exact bitOf_any v h w
set_option maxRecDepth 100000 in
theorem has_any {k : Nat} (hk : k < 512) (n : Int) (w : World) : Calls Try.prog 76 #[.int .u16 (k : Int), .int .i64 n] w fun e w' => e = .returned (.bool (decide (n ∈ lw k))) ∧ w' = w := by
  have H := isVersion_any n
  by_cases h : 1 ≤ n ∧ n ≤ 9
  · rw [inBd_yes h.1 h.2] at H
    have HW := Lib.hid (word_has hk h)
    obtain ⟨p, hp⟩ : ∃ p : Nat, 2 ^ (n.toNat - 1) = p := ⟨_, rfl⟩
    rw [hp] at HW
    have HB := Lib.hid (bitOf_val h hp)
    clear h hp
    go_enter Try.func76, Try.ntmps76
    go_wp2_with (go_at_call 74; refine (H _).mono ?_; rintro e w' ⟨rfl, rfl⟩)
    go_wp2_with (go_at_call 77; refine (HB.out _).mono ?_; rintro e w' ⟨rfl, rfl⟩)
    go_ret
    exact ⟨by rw [← HW.out]; rfl, rfl⟩
  · rw [inBd_no h] at H
    have HW : Hid (decide (n ∈ lw k) = false) := Lib.hid (decide_eq_false fun q => h (lw_mem.1 q).1)
    clear h
    go_enter Try.func76, Try.ntmps76
    go_wp2_with (go_at_call 74; refine (H _).mono ?_; rintro e w' ⟨rfl, rfl⟩)
    go_ret
    exact ⟨by rw [HW.out]; rfl, rfl⟩
set_option maxRecDepth 100000 in
set_option maxHeartbeats 1000000 in
theorem versionsOf_any {a : Option Addr} {n c : Nat} {l : List Int} {w : World} (h : Nums .i64 w a n l) :
    Calls Try.prog 75 #[.slice a n c] w fun e w' => e = .returned (.int .u16 (word l : Int)) ∧ w = w' := by
  have H := Lib.hid h
  have hl := Lib.hid h.len
  have hfit := h.fits
  clear h
  go_enter Try.func75, Try.ntmps75
  go_wp2_with fail
  go_loop [3, 5, 8] (fun s _ i => ∃ j k : Nat, j ≤ n ∧ i = .int .i64 j ∧ s = .int .u16 k ∧ k < 512 ∧ voW (l.drop j) k = word l) (fun _ _ i => n - (intOf i).toNat)
  case atStart => exact ⟨0, 0, Nat.zero_le _, rfl, rfl, by omega, rfl⟩
  case round =>
    obtain ⟨j, k, hj, rfl, rfl, hk, hw⟩ := hrel
    have HK := Lib.hid hk
    have HW := Lib.hid hw
    clear hk hw
    by_cases hlt : j < n
    · obtain ⟨ad, z, rfl, hz, hc⟩ := H.out.at_ hlt
      have HV := isVersion_any z
      have HS := Lib.hid (voW_step hz (w := k))
      clear hz
      by_cases hr : 1 ≤ z ∧ z ≤ 9
      · rw [inBd_yes hr.1 hr.2] at HV
        obtain ⟨p, hp⟩ : ∃ p : Nat, 2 ^ (z.toNat - 1) = p := ⟨_, rfl⟩
        have HB := Lib.hid (bitOf_val hr hp)
        by_cases hs : k < p
        · have HO := Lib.hid (word_or HK.out hr)
          rw [hp] at HO
          have HL := Lib.hid (or_lt HK.out hr)
          rw [hp] at HL
          have HY : Hid (voW (l.drop (j + 1)) (k ||| p) = word l) := Lib.hid (by
            rw [← HW.out, HS.out, voW_yes ⟨hr, by rw [hp]; exact hs⟩, hp])
          have hd : decide (p ≤ k) = false := decide_eq_false (by omega)
          obtain ⟨q, hq⟩ : ∃ q : Nat, q = (k ||| p) := ⟨_, rfl⟩
          rw [← hq] at HO HL HY
          have ho := HO.out
          clear hr hp hq hs
          go_wp2_with (go_at_call 74; refine (HV _).mono ?_; rintro e w' ⟨rfl, rfl⟩)
          go_wp2_with (go_at_call 77; refine (HB.out _).mono ?_; rintro e w' ⟨rfl, rfl⟩)
          go_wp2_with (go_at_call 77; refine (HB.out _).mono ?_; rintro e w' ⟨rfl, rfl⟩)
          go_round
          case rel => exact ⟨j + 1, q, by omega, by go_num, rfl, HL.out, HY.out⟩
          case measure => simp [intOf]; omega
        · have HY : Hid (word l = 0) := Lib.hid (by
            rw [← HW.out, HS.out, voW_no (by rw [hp]; exact fun q => hs q.2)])
          have hd : decide (p ≤ k) = true := decide_eq_true (by omega)
          clear hr hp hs
          go_wp2_with (go_at_call 74; refine (HV _).mono ?_; rintro e w' ⟨rfl, rfl⟩)
          go_wp2_with (go_at_call 77; refine (HB.out _).mono ?_; rintro e w' ⟨rfl, rfl⟩)
          go_ret
          exact ⟨by rw [HY.out]; rfl, rfl⟩
      · rw [inBd_no hr] at HV
        have HY : Hid (word l = 0) := Lib.hid (by
          rw [← HW.out, HS.out, voW_no (fun q => hr q.1)])
        clear hr
        go_wp2_with (go_at_call 74; refine (HV _).mono ?_; rintro e w' ⟨rfl, rfl⟩)
        go_ret
        exact ⟨by rw [HY.out]; rfl, rfl⟩
    · obtain rfl : j = n := by omega
      have HY : Hid (word l = k) := Lib.hid (by
        have := HW.out
        rw [← hl.out, drop_all] at this
        exact this.symm)
      go_wp2_with fail
      go_ret
      exact ⟨by rw [HY.out]; rfl, rfl⟩
end Go.Proofs.Ytcmjadfpifpknaa
namespace Go.Proofs.Ytcmjadfpifpknaa
open Go.ChangeShapes Go.WideShapes Go.ChangeAt Go.RowKit
set_option linter.unusedVariables false
set_option linter.unusedSimpArgs false

theorem len_size : Lib.len8tab.size = 256 := by decide +kernel
theorem pop_size : Lib.pop8tab.size = 256 := by decide +kernel
theorem len_tab : ∀ i : Fin 256, (Lib.len8tab[i.val]'(by rw [len_size]; exact i.isLt)).toNat = Lib.bitLen i.val := by decide +kernel
theorem pop_tab : ∀ i : Fin 256, (Lib.pop8tab[i.val]'(by rw [pop_size]; exact i.isLt)).toNat = Lib.onesCount i.val := by decide +kernel
theorem len_two : ∀ x : Fin 512, (x.val < 256 ∧ Lib.bitLen x.val ≤ 8) ∨ (256 ≤ x.val ∧ Lib.bitLen x.val = 8 + Lib.bitLen (x.val / 256)) := by decide +kernel
set_option maxRecDepth 100000 in
set_option maxHeartbeats 1000000 in
theorem len16_any (x : Nat) (hx : x < 512) (w : World) : Calls Try.prog 87 #[.int .u16 (x : Int)] w fun e w' => e = .returned (.int .i64 (Lib.bitLen x : Int)) ∧ w' = w := by
  have h2 := len_two ⟨x, hx⟩
  dsimp only at h2
  by_cases h : 256 ≤ x
  · have hs : (x : Int) / 256 < (Lib.len8tab.size : Int) := by rw [len_size]; omega
    have hx2 : x / 256 < Lib.len8tab.size := by rw [len_size]; omega
    have ht : (Lib.len8tab[x / 256]'hx2).toNat = Lib.bitLen (x / 256) := len_tab ⟨x / 256, by omega⟩
    have hb : Lib.bitLen x = 8 + Lib.bitLen (x / 256) := by omega
    have h9 : Lib.bitLen (x / 256) ≤ 9 := (t_great ⟨x / 256, by omega⟩).2.2.2.1
    have HT := Lib.hid ht
    have HB := Lib.hid hb
    have H9 := Lib.hid h9
    clear ht hb h9 h2
    go_enter Try.func87, Try.ntmps87
    go_wp2
    go_ret
    refine ⟨congrArg Ending.returned (congrArg (Value.int IntKind.i64) ?_), rfl⟩
    have h9 := H9.out
    have e1 : wrap64 ((Lib.bitLen (x / 256) : Nat) : Int) = ((Lib.bitLen (x / 256) : Nat) : Int) := IntWalk.wrap64_in _ (by omega)
    have e2 : wrap64 (8 + ((Lib.bitLen (x / 256) : Nat) : Int)) = 8 + ((Lib.bitLen (x / 256) : Nat) : Int) := IntWalk.wrap64_in _ (by omega)
    rw [HT.out, HB.out, e1, e2]
    omega
  · have hs : (x : Int) < (Lib.len8tab.size : Int) := by rw [len_size]; omega
    have hx2 : x < Lib.len8tab.size := by rw [len_size]; omega
    have ht : (Lib.len8tab[x]'hx2).toNat = Lib.bitLen x := len_tab ⟨x, by omega⟩
    have hb : Lib.bitLen x ≤ 8 := by omega
    have HT := Lib.hid ht
    have HB := Lib.hid hb
    clear ht hb h2
    go_enter Try.func87, Try.ntmps87
    go_wp2
    go_ret
    refine ⟨congrArg Ending.returned (congrArg (Value.int IntKind.i64) ?_), rfl⟩
    have h9 := HB.out
    have e1 : wrap64 ((Lib.bitLen x : Nat) : Int) = ((Lib.bitLen x : Nat) : Int) := IntWalk.wrap64_in _ (by omega)
    rw [HT.out, e1]
    first | done | exact e1 | omega

theorem greatest_any (x : Nat) (hx : x < 512) (w : World) : Calls Try.prog 83 #[.int .u16 (x : Int)] w fun e w' => e = .returned (.int .i64 (Lib.bitLen x : Int)) ∧ w' = w := by
  have H := len16_any x hx
  go_enter Try.func83, Try.ntmps83
  go_wp2_with (go_at_call 87; refine (H _).mono ?_; rintro e w' ⟨rfl, rfl⟩)
  go_ret
  exact ⟨rfl, rfl⟩
end Go.Proofs.Ytcmjadfpifpknaa
namespace Go.Proofs.Ytcmjadfpifpknaa
open Go.ChangeShapes Go.WideShapes Go.ChangeAt Go.RowKit
set_option linter.unusedVariables false
set_option linter.unusedSimpArgs false

theorem lwTo_len (k j : Nat) : (lwTo k j).length ≤ 9 := by
  unfold lwTo
  refine Nat.le_trans (List.length_filter_le _ _) ?_
  rw [List.length_take]
  exact Nat.min_le_right _ _
theorem lwTo_yes {k j : Nat} (hk : k < 512) (hj : j < 9) (h : decide (((j + 1 : Nat) : Int) ∈ lw k) = true) : lwTo k (j + 1) = lwTo k j ++ [((j + 1 : Nat) : Int)] := by
  have e : lwTo k (j + 1) = _ := t_step ⟨k, hk⟩ ⟨j, hj⟩
  have hm := (lw_mem.1 (of_decide_eq_true h)).2
  rw [show (((j + 1 : Nat) : Int)).toNat - 1 = j by omega] at hm
  rw [e]
  dsimp only
  rw [if_pos hm]
  rfl
theorem lwTo_no {k j : Nat} (hk : k < 512) (hj : j < 9) (h : decide (((j + 1 : Nat) : Int) ∈ lw k) = false) : lwTo k (j + 1) = lwTo k j := by
  have e : lwTo k (j + 1) = _ := t_step ⟨k, hk⟩ ⟨j, hj⟩
  have hm : ¬ k.testBit j = true := fun q => of_decide_eq_false h (lw_mem.2 ⟨by omega, by rw [show (((j + 1 : Nat) : Int)).toNat - 1 = j by omega]; exact q⟩)
  rw [e]
  dsimp only
  rw [if_neg hm]
set_option maxRecDepth 100000 in
set_option maxHeartbeats 2000000 in
theorem list_any {k : Nat} (hk : k < 512) (w : World) :
    Calls Try.prog 78 #[.int .u16 (k : Int)] w (Made .i64 3 w.heap.size (lw k) w) := by
  obtain ⟨i0, hi, hz0, hz1, hz2⟩ := info_parts infoIntS
  have HI := Lib.hid (And.intro hi (And.intro hz0 (And.intro hz1 hz2)))
  clear hi hz0 hz1 hz2
  have HG := greatest_any k hk
  have HH := fun n => has_any hk n
  have HT := Lib.hid (t_lwTo ⟨k, hk⟩)
  have h9 : Lib.bitLen k ≤ 9 := (t_great ⟨k, hk⟩).2.2.2.1
  obtain ⟨g, hg⟩ : ∃ g : Nat, Lib.bitLen k = g := ⟨_, rfl⟩
  dsimp only at HT
  rw [hg] at HG HT h9
  clear hg
  have KO := Lib.hid (Own.empty (k := .i64) (t := 3) (w := w) (B := w.heap.size) (Nat.le_refl _))
  unfold Made
  go_enter Try.func78, Try.ntmps78
  go_wp2_with fail
  go_loopw [3, 4] (fun s v wr => ∃ (a' : Option Addr) (c' n' j : Nat), s = .slice a' n' c' ∧ v = .int .i64 ((j + 1 : Nat) : Int) ∧ j ≤ g ∧ Own .i64 3 wr w.heap.size a' n' c' (lwTo k j) ∧ Below w.heap.size w wr) (fun _ v _ => g + 1 - (intOf v).toNat)
  case atStart => exact ⟨_, _, _, 0, rfl, rfl, Nat.zero_le _, by rw [HT.out.2]; exact KO.out, alloc_same _ _⟩
  case round =>
    obtain ⟨a', c', n', j, rfl, rfl, hj, ho, hb⟩ := hrel
    have HO := Lib.hid ho
    have HB := Lib.hid hb
    have hn9 : n' ≤ 9 := by rw [← ho.len]; exact lwTo_len k j
    clear ho hb
    by_cases hlt : j < g
    · go_wp2_with fail
      refine (HG _).mono ?_
      rintro e w2 ⟨rfl, rfl⟩
      cases hm : decide (((j + 1 : Nat) : Int) ∈ lw k) with
      | true =>
        have HY := Lib.hid (lwTo_yes hk (by omega) hm)
        have HV := Lib.hid (HH ((j + 1 : Nat) : Int))
        rw [hm] at HV
        clear hm
        go_wp2_with fail
        refine (HV.out _).mono ?_
        rintro e w2 ⟨rfl, rfl⟩
        go_wp2_with (at_builtin; refine wpl_app _ rfl (.tmp 15) (.tmp 17) 22 rfl .i64 3 i0 (.int .i64 0) 8 Try.underlying22 HI.out.1 HI.out.2.1 HI.out.2.2.1 HI.out.2.2.2 rfl rfl (HO.out.alloc _) rfl (nums_new _ _ _ _) (by omega) ?c6 ?c7 ?_)
        case c6 => omega
        case c7 => have := HB.out.size; simp; omega
        intro a3 c3 w3 ho3 hb3
        have HO3 := Lib.hid ho3
        have HB3 := Lib.hid hb3
        clear ho3 hb3
        go_wp2
        go_roundw
        case rel => exact ⟨a3, c3, _, j + 1, rfl, by go_num, by omega, by rw [HY.out]; exact HO3.out, HB.out.trans (((alloc_same _ _).mono HB.out.size).trans HB3.out)⟩
        case measure => simp [intOf]; omega
      | false =>
        have HY := Lib.hid (lwTo_no hk (by omega) hm)
        have HV := Lib.hid (HH ((j + 1 : Nat) : Int))
        rw [hm] at HV
        clear hm
        go_wp2_with fail
        refine (HV.out _).mono ?_
        rintro e w2 ⟨rfl, rfl⟩
        go_wp2
        go_roundw
        case rel => exact ⟨a', c', n', j + 1, rfl, by go_num, by omega, by rw [HY.out]; exact HO.out, HB.out⟩
        case measure => simp [intOf]; omega
    · obtain rfl : j = g := by omega
      go_wp2_with fail
      refine (HG _).mono ?_
      rintro e w2 ⟨rfl, rfl⟩
      go_wp2
      go_ret
      exact ⟨_, _, _, rfl, by rw [← HT.out.1]; exact HO.out, HB.out⟩
end Go.Proofs.Ytcmjadfpifpknaa
