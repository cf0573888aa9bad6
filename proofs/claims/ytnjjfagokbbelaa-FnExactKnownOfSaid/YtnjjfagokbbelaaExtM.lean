/- The helpers of the exact laws at lists of extensions: marked, looked at. -/
import Derived.Test.YtnjjfagokbbelaaValM
import Derived.Deep.QuietTactic
import Derived.BigQuiet
import Derived.RegionTactic
import Derived.Handy
namespace Go.Proofs.Ytnjjfagokbbelaa
open Go.ChangeShapes Go.WideShapes Go.ChangeAt Go.RowKit
set_option linter.unusedVariables false

set_option maxHeartbeats 2000000 in
set_option maxRecDepth 100000 in
theorem markExtS_any (S B : Nat) (a : Option Addr) (n c j0 : Nat) (l : List Vl) (w : World) (h : OwnVB S 57 3 w B a n c l) (h0 : j0 ≤ 100000000000) (hn : n ≤ 1000000000) (hit : itemsOf l ≤ 1000000000) :
    Calls Try.prog 39 #[.slice a n c, .int .i64 j0] w fun e w' => e = .returned (.int .i64 ((j0 + n + itemsOf l : Nat) : Int)) ∧ OwnVB S 57 3 w' B a n c (marksV j0 l) ∧ Inside B S w w' := by
  have H := Lib.hid h
  have hln := Lib.hid h.len
  clear h
  go_enter Try.func39, Try.ntmps39
  go_wp2_with fail
  go_loopw [1, 5] (fun q i wr => ∃ j : Nat, j ≤ n ∧ i = .int .i64 j ∧ q = .int .i64 ((j0 + j + itemsOf (l.take j) : Nat) : Int) ∧ OwnVB S 57 3 wr B a n c (marksV j0 (l.take j) ++ l.drop j) ∧ Inside B S w wr) (fun _ i _ => n - (intOf i).toNat)
  case atStart => exact ⟨0, Nat.zero_le _, rfl, by simp [itemsOf], by simpa [marksV] using H.out, Inside.refl _ _ _⟩
  case round =>
    obtain ⟨j, hj, rfl, rfl, hown, hg⟩ := hrel
    by_cases hlt : j < n
    · obtain ⟨x, hx⟩ : ∃ x, l[j]? = some x := ⟨_, List.getElem?_eq_getElem (by rw [hln.out]; exact hlt)⟩
      have hst := itemsOf_at hx
      have hle := itemsOf_le l (j + 1)
      have hpre : (marksV j0 (l.take j)).length = j := by rw [marksV_len, List.length_take, hln.out]; omega
      rw [drop_at hx] at hown
      have hmid := get_mid _ j hpre x (l.drop (j + 1))
      obtain ⟨q, hq⟩ : ∃ q : Nat, q = j0 + j + itemsOf (l.take j) := ⟨_, rfl⟩
      have hqb : q ≤ 200000000000 := by omega
      have hnext : j0 + (j + 1) + itemsOf (l.take (j + 1)) = q + 1 + x.items.length := by omega
      have hxl : x.items.length ≤ 1000000000 := by omega
      rw [← hq]
      obtain ⟨hs, h1, h2, hL⟩ := hown
      obtain ⟨g, e, _, _⟩ := h1.head (by omega)
      subst e
      have hp := OwnVB.putNum ⟨hs, h1, h2, hL⟩ hmid (q : Int)
      rw [set_mid _ j hpre] at hp
      have hf0 := h1.2.frozenAt (j * 2)
      obtain ⟨u0, hu0⟩ := row_cell h1.2 (k := j * 2) (by omega)
      obtain ⟨hs2, k1, k2, kL⟩ := hp.1
      have hjv : j < hs2.length := by rw [k2.1]; simp; omega
      have hmid2 := get_mid _ j hpre (⟨(q : Int), x.items⟩ : Vl) (l.drop (j + 1))
      have hv := List.getElem?_eq_getElem hjv
      obtain ⟨v, hvv⟩ : ∃ v, v = hs2[j] := ⟨_, rfl⟩
      rw [← hvv] at hv
      obtain ⟨vn, vp, vm, vc⟩ := v
      obtain ⟨e1, ho, _⟩ := k2.2.1 j _ _ hv hmid2
      dsimp only at ho
      have hc1 := (k1.items Vh.enc_len).at_ (j := j) (by omega)
      obtain ⟨b', o', g', eb, hg', hcell⟩ := hc1
      cases eb
      rw [hv] at hg'
      cases hg'
      have hhdr := hcell 1 _ rfl
      dsimp only at hhdr
      have hvm : vm = x.items.length := by rw [← ho.len]
      subst hvm
      have HMK := Lib.hid (markIntS_any B vp x.items.length vc (q + 1) x.items _ ho (by omega) (by omega))
      have HIN := Lib.hid (hg.trans hp.2)
      have HOV := Lib.hid (fun (w' : World) (y : List Int) => OwnVB.over (w' := w') (y := y) k1 k2 kL hmid2 hv)
      have HX := Lib.hid hx
      have HPRE := Lib.hid hpre
      have HQ := Lib.hid hq
      have HN := Lib.hid hnext
      clear hx hpre hmid hmid2 h1 h2 hL hp k1 k2 kL hv hvv e1 ho hcell hg hq hst hnext
      simp only [Nat.zero_add] at hhdr
      go_wp2_with fail
      refine HMK.out.mono ?_
      rintro e w2 ⟨rfl, ho2, hg2⟩
      obtain ⟨k3, hi3⟩ := HOV.out _ _ hg2 ho2
      rw [set_mid _ j HPRE.out] at k3
      have HOW := Lib.hid k3
      have HIN2 := Lib.hid (HIN.out.trans hi3)
      clear k3 hi3 ho2 hg2 HOV HMK
      go_wp2_with fail
      go_roundw
      case rel =>
        refine ⟨j + 1, by omega, by go_num, ?_, ?_, HIN2.out⟩
        · rw [HN.out]
          congr 1
        · rw [marksV_take j0 HX.out, List.append_assoc, ← HQ.out]
          exact HOW.out
      case measure => simp [intOf]; omega
    · obtain rfl : j = n := by omega
      have hall : l.take j = l := List.take_of_length_le (by rw [hln.out]; omega)
      have hnone : l.drop j = [] := List.drop_eq_nil_of_le (by rw [hln.out]; omega)
      rw [hall, hnone, List.append_nil] at hown
      rw [hall]
      have HW := Lib.hid hown
      have HG := Lib.hid hg
      clear hown hg hall hnone
      go_wp2_with fail
      go_ret
      exact ⟨rfl, HW.out, HG.out⟩
set_option maxHeartbeats 2000000 in
set_option maxRecDepth 100000 in
theorem heldExtS_any (a : Option Addr) (n c j0 : Nat) (l : List Vl) (w : World) (h : Vals w a n (marksV j0 l)) (h0 : j0 ≤ 100000000000) (hn : n ≤ 1000000000) (hit : itemsOf l ≤ 1000000000) :
    Calls Try.prog 41 #[.slice a n c, .int .i64 j0] w (Told (.int .i64 ((j0 + n + itemsOf l : Nat) : Int)) w) := by
  have H := Lib.hid h
  have hln : Hid (l.length = n) := Lib.hid (by rw [← h.len, marksV_len])
  clear h
  go_enter Try.func41, Try.ntmps41
  go_wp2_with fail
  go_loopw [1, 5] (fun q i wr => ∃ j : Nat, j ≤ n ∧ i = .int .i64 j ∧ q = .int .i64 ((j0 + j + itemsOf (l.take j) : Nat) : Int) ∧ Below w.heap.size w wr) (fun _ i _ => n - (intOf i).toNat)
  case atStart => exact ⟨0, Nat.zero_le _, rfl, by simp [itemsOf], Below.refl _ _⟩
  case round =>
    obtain ⟨j, hj, rfl, rfl, hb⟩ := hrel
    have HB := Lib.hid hb
    clear hb
    by_cases hlt : j < n
    · obtain ⟨x, hx⟩ : ∃ x, l[j]? = some x := ⟨_, List.getElem?_eq_getElem (by rw [hln.out]; exact hlt)⟩
      have hst := itemsOf_at hx
      have hle := itemsOf_le l (j + 1)
      have hmk := marksV_at j0 hx
      obtain ⟨q, hq⟩ : ∃ q : Nat, q = j0 + j + itemsOf (l.take j) := ⟨_, rfl⟩
      have hnext : j0 + (j + 1) + itemsOf (l.take (j + 1)) = q + 1 + x.items.length := by omega
      have hqb : q ≤ 200000000000 := by omega
      have hxl : x.items.length ≤ 1000000000 := by omega
      rw [← hq] at hmk ⊢
      obtain ⟨b, o, p, m, d, k, y, rfl, hy, hc0, hc1, hN, hr⟩ := (H.out.same HB.out).at_ hlt
      rw [hmk] at hy
      cases hy
      have hmx : m = x.items.length := by rw [← hN.len, marksIntS_len]
      subst hmx
      have HH := Lib.hid (heldIntS_any p x.items.length d (q + 1) wr hN (by omega) (by omega))
      have HNX := Lib.hid hnext
      clear hx hst hmk hq hN hnext
      go_wp2_with fail
      refine HH.out.mono ?_
      rintro e w2 ⟨rfl, hb2⟩
      have HB2 := Lib.hid (HB.out.trans (hb2.mono HB.out.size))
      clear hb2 hc0 hc1 HH
      go_wp2_with fail
      go_roundw
      case rel => exact ⟨j + 1, by omega, by go_num, by rw [HNX.out]; congr 1, HB2.out⟩
      case measure => simp [intOf]; omega
    · obtain rfl : j = n := by omega
      have hall : l.take j = l := List.take_of_length_le (by rw [hln.out]; omega)
      rw [hall]
      clear hall
      go_wp2_with fail
      go_ret
      exact ⟨rfl, HB.out⟩
end Go.Proofs.Ytnjjfagokbbelaa
