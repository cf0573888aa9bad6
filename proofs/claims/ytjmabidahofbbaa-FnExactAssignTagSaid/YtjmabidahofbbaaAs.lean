/- Tags given: by the program. -/
import Derived.Test.YtjmabidahofbbaaAs0
import Derived.Test.YtjmabidahofbbaaIns
namespace Go.Proofs.Ytjmabidahofbbaa
open Go.ChangeShapes Go.WideShapes Go.ChangeAt Go.RowKit Go.Sort
set_option linter.unusedVariables false

theorem new_shape (w : World) (cs : Array Value) (t : TypeId) : (w.alloc (.cells cs t)).shape? w.heap.size = some (t, cs.size) := by
  unfold World.shape?
  rw [heap_alloc_new]
theorem new_frozen (w : World) (cs : Array Value) (t : TypeId) (k : Nat) : (w.alloc (.cells cs t)).frozen? ⟨w.heap.size, k, none⟩ = false := by
  unfold World.frozen?
  rw [show (⟨w.heap.size, k, none⟩ : Addr).block = w.heap.size from rfl, heap_alloc_new]
  simp
set_option maxHeartbeats 1000000 in
set_option maxRecDepth 100000 in
theorem freeTag_any {a : Option Addr} {n c : Nat} {l : List En} {w : World} (h : Ens w a n l) (hr : isReg l = true) (hl : l.length < 12) :
    Calls Try.prog 69 #[.slice a n c] w (fun e w' => e = .returned (.tuple #[.int .i64 (freeT l : Nat), .int .i64 (plcOf l (freeT l) : Nat)]) ∧ Below w.heap.size w w') := by
  have H := Lib.hid h
  have HR := Lib.hid hr
  have HL := Lib.hid hl
  have hn : n ≤ 1048576000 := by have := h.len; omega
  obtain ⟨hf0, hf1, hf2⟩ := free_spec hl
  have HF := Lib.hid (And.intro hf0 hf2)
  obtain ⟨F, hF⟩ : ∃ F, freeT l = F := ⟨_, rfl⟩
  rw [hF] at hf1 HF
  have HFE := Lib.hid hF
  rw [hF]
  clear h hr hl hf0 hf2 hF
  obtain ⟨K, hK⟩ : ∃ K, plcOf l (F : Int) = K := ⟨_, rfl⟩
  rw [hK]
  have HK := Lib.hid hK
  clear hK
  go_enter Try.func69, Try.ntmps69
  go_wp2
  go_loopw [4, 5, 6] (fun vt _ _ wr => ∃ t : Nat, vt = .int .i64 t ∧ t ≤ F ∧ Hid (Below w.heap.size w wr)) (fun vt _ _ _ => F - (intOf vt).toNat)
  case atStart => exact ⟨0, rfl, Nat.zero_le _, Below.refl _ _⟩
  case round =>
    obtain ⟨t, rfl, htF, HB⟩ := hrel
    have hp := placeOf_any (c := c) (t : Int) (H.out.same HB.out) (isReg_sasc HR.out).asc hn
    have hres := isReserved_any (t : Int)
    obtain ⟨r, hr⟩ : ∃ r, resv (t : Int) = r := ⟨_, rfl⟩
    rw [hr] at hres
    have HT : Hid (resv (t : Int) = r) := Lib.hid hr
    clear hr
    go_wp2_with fail
    refine hp.mono ?_
    rintro e w2 ⟨k, f, rfl, hk, hb⟩
    have hka := hk.at_
    have hkf := hk.any
    have HB2 : Hid (Below w.heap.size w w2) := Lib.hid (HB.out.trans (hb.mono HB.out.size))
    have HKF : Hid (tkn l t = (r || f)) := Lib.hid (by unfold tkn; rw [HT.out, hkf])
    have HKA := Lib.hid hka
    clear hb hp hk hka hkf
    cases f with
    | true =>
      have hlt : t < F := by
        have h1 := HKF.out
        rw [Bool.or_true] at h1
        rcases Nat.lt_or_ge t F with h | h
        · exact h
        · obtain rfl : t = F := by omega
          rw [HF.out.1] at h1; cases h1
      go_wp2
      go_roundw
      case rel => exact ⟨t + 1, by go_num, hlt, HB2⟩
      case measure => simp [intOf]; omega
    | false =>
      cases r with
      | true =>
        have hlt : t < F := by
          have h1 := HKF.out
          rw [Bool.true_or] at h1
          rcases Nat.lt_or_ge t F with h | h
          · exact h
          · obtain rfl : t = F := by omega
            rw [HF.out.1] at h1; cases h1
        go_wp2_with (go_at_call 26; refine (hres _).mono ?_; rintro e w' ⟨rfl, rfl⟩)
        go_roundw
        case rel => exact ⟨t + 1, by go_num, hlt, HB2⟩
        case measure => simp [intOf]; omega
      | false =>
        have heq : t = F := by
          rcases Nat.lt_or_ge t F with h | h
          · have h1 := HF.out.2 t h
            rw [HKF.out] at h1; cases h1
          · omega
        subst heq
        have hKk : K = k := by rw [← HK.out, HKA.out]
        subst hKk
        go_wp2_with (go_at_call 26; refine (hres _).mono ?_; rintro e w' ⟨rfl, rfl⟩)
        go_ret2
        exact ⟨rfl, HB2.out⟩

set_option maxHeartbeats 2000000 in
set_option maxRecDepth 100000 in
theorem assignTag_any {a : Option Addr} {n c : Nat} {l : List En} {w : World} (v : Int) (h : Ens w a n l) (hn : n ≤ 1048576000) :
    Calls Try.prog 23 #[.slice a n c, .int .i64 v] w (fun e w' => ∃ b m d, e = .returned (.tuple #[.slice b m d, .int .i64 (asgT l v), .bool (asgOk l v)]) ∧ OwnN 51 w' w.heap.size b m d (asgL l v) ∧ Below w.heap.size w w') := by
  have hcopy := copyEntries_any (c := c) h hn
  have H := Lib.hid h
  have HL := Lib.hid h.len
  clear h
  go_enter Try.func23, Try.ntmps23
  go_wp2_with fail
  refine hcopy.mono ?_
  rintro e w1 ⟨g, d, rfl, ho, hb⟩
  have HO1 := Lib.hid ho
  have HB1 := Lib.hid hb
  have hreg := isRegistry_any (c := c) (H.out.same hb)
  clear ho hb hcopy
  obtain ⟨r, hr⟩ : ∃ r, isReg l = r := ⟨_, rfl⟩
  rw [hr] at hreg
  have HR := Lib.hid hr
  have hven := isVendor_any v
  obtain ⟨vb, hvb⟩ : ∃ vb, inB v 0 9 = vb := ⟨_, rfl⟩
  rw [hvb] at hven
  have HV := Lib.hid hvb
  clear hr hvb
  go_wp2_with fail
  refine hreg.mono ?_
  rintro e w2 ⟨rfl, hb⟩
  have HO2 : Hid (OwnN 51 w2 w.heap.size (some ⟨g, 0, none⟩) n d l) := Lib.hid (HO1.out.same hb)
  have HB2 : Hid (Below w.heap.size w w2) := Lib.hid (HB1.out.trans (hb.mono HB1.out.size))
  clear hb hreg HO1 HB1
  have hno : asgOk l v = false → Hid (asgT l v = -1 ∧ asgL l v = l ∧ asgOk l v = false) := fun e => Lib.hid ⟨(asg_no e).1, (asg_no e).2, e⟩
  have NO := Lib.hid hno
  clear hno
  cases r with
  | false =>
    have HQ := NO.out (by unfold asgOk; rw [HR.out]; rfl)
    clear NO hven
    go_wp2
    go_ret3
    refine ⟨some ⟨g, 0, none⟩, n, d, by rw [HQ.out.1, HQ.out.2.2]; rfl, ?_, HB2.out⟩
    rw [HQ.out.2.1]; exact HO2.out
  | true =>
    cases vb with
    | false =>
      have HQ := NO.out (by unfold asgOk; rw [HV.out, Bool.and_false]; rfl)
      clear NO
      go_wp2_with (go_at_call 68; refine (hven _).mono ?_; rintro e w' ⟨rfl, rfl⟩)
      go_ret3
      refine ⟨some ⟨g, 0, none⟩, n, d, by rw [HQ.out.1, HQ.out.2.2]; rfl, ?_, HB2.out⟩
      rw [HQ.out.2.1]; exact HO2.out
    | true =>
      have hn12 : n ≤ 12 := by have h1 := (isReg_parts HR.out).1; have h2 := HL.out; omega
      by_cases hfull : n = 12
      · have hz : ((n : Int) == 12) = true := by simp; omega
        have HQ := NO.out (by unfold asgOk; rw [decide_eq_false (by have := HL.out; omega), Bool.and_false])
        clear NO hfull
        go_wp2_with (go_at_call 68; refine (hven _).mono ?_; rintro e w' ⟨rfl, rfl⟩)
        go_ret3
        refine ⟨some ⟨g, 0, none⟩, n, d, by rw [HQ.out.1, HQ.out.2.2]; rfl, ?_, HB2.out⟩
        rw [HQ.out.2.1]; exact HO2.out
      · have hz : ((n : Int) == 12) = false := by simp; omega
        have hz2 : ¬ ((n : Int) = 12) := by omega
        have hlt : l.length < 12 := by have := HL.out; omega
        have hok : asgOk l v = true := by unfold asgOk; rw [HR.out, HV.out, decide_eq_true hlt]; rfl
        have HQ := Lib.hid (And.intro hok (asg_yes hok))
        have hfree := freeTag_any (c := c) (H.out.same HB2.out) HR.out hlt
        have hk0 := plcOf_le l (freeT l : Int)
        have hf13 := (free_spec hlt).2.1
        obtain ⟨F, hF⟩ : ∃ F, freeT l = F := ⟨_, rfl⟩
        rw [hF] at hfree hk0 hf13
        obtain ⟨K, hK⟩ : ∃ K, plcOf l (F : Int) = K := ⟨_, rfl⟩
        rw [hK] at hfree hk0
        have HE := Lib.hid (And.intro hF hK)
        have hkn : K ≤ n := by have := HL.out; omega
        clear NO hok hF hK hk0 hlt
        go_wp2_with (go_at_call 68; refine (hven _).mono ?_; rintro e w' ⟨rfl, rfl⟩)
        refine hfree.mono ?_
        rintro e w3 ⟨rfl, hb⟩
        have HO3 : Hid (OwnN 51 w3 w.heap.size (some ⟨g, 0, none⟩) n d l) := Lib.hid (HO2.out.same hb)
        have HB3 : Hid (Below w.heap.size w w3) := Lib.hid (HB2.out.trans (hb.mono HB2.out.size))
        clear hb hfree HO2 HB2
        have hsz3 := HB3.out.size
        have hg3 : g < w3.heap.size := (HO3.out.span ⟨g, 0, none⟩ rfl).2
        have hdn := HO3.out.room
        have hitem := items_new En.enc_len w3 (⟨(F : Int), v, false⟩ : En) 51
        have hins : Calls Try.prog 70 #[.slice (some ⟨g, 0, none⟩) n d, .int .i64 (K : Nat), .slice (some ⟨w3.heap.size, 0, none⟩) 1 1] (w3.alloc (.cells #[.int .i64 (F : Nat), .int .i64 v, .bool false] 51)) (fun e w' => ∃ b d', e = .returned (.slice b (n + 1) d') ∧ OwnN 51 w' w.heap.size b (n + 1) d' (l.take K ++ ⟨(F : Int), v, false⟩ :: l.drop K) ∧ Below w.heap.size (w3.alloc (.cells #[.int .i64 (F : Nat), .int .i64 v, .bool false] 51)) w') := by
          have hB : w.heap.size ≤ (w3.alloc (.cells #[.int .i64 (F : Nat), .int .i64 v, .bool false] 51)).heap.size := by simp; omega
          rcases Nat.lt_or_ge K n with h1 | h1
          · rcases Nat.lt_or_ge d (n + 1) with h2 | h2
            · exact insert_grow (HO3.out.alloc _) hitem h1 h2 (by simp) (by omega) hB
            · exact insert_shift (HO3.out.alloc _) hitem h1 h2 (by omega) (tA := 51) (kA := 3) (new_shape _ _ _) (new_frozen _ _ _ _) (new_frozen _ _ _ _) (by omega) hB
          · obtain rfl : K = n := by omega
            have := insert_end (HO3.out.alloc _) hitem (by omega) hB
            have e1 : l.take K = l := List.take_of_length_le (by rw [HL.out]; exact Nat.le_refl _)
            have e2 : l.drop K = [] := List.drop_eq_nil_of_le (by rw [HL.out]; exact Nat.le_refl _)
            rw [e1, e2]
            exact this
        have HINS := Lib.hid hins
        clear hins hitem
        go_wp2_with fail
        refine HINS.out.mono ?_
        rintro e w4 ⟨b, d', rfl, ho4, hb4⟩
        have HO4 : Hid (OwnN 51 w4 w.heap.size b (n + 1) d' (asgL l v)) := Lib.hid (by
          rw [HQ.out.2.2]
          unfold insB
          rw [HE.out.1]
          show OwnI En.enc 3 51 w4 w.heap.size b (n + 1) d' (l.take (plcOf l (F : Int)) ++ ⟨(F : Int), v, false⟩ :: l.drop (plcOf l (F : Int)))
          rw [HE.out.2]
          exact ho4)
        have HB4 : Hid (Below w.heap.size w w4) := Lib.hid ((HB3.out.alloc hsz3 _).trans hb4)
        have HT4 : Hid (asgT l v = (F : Int)) := Lib.hid (by rw [HQ.out.2.1, HE.out.1])
        clear ho4 hb4
        go_wp2_with fail
        go_ret3
        refine ⟨b, n + 1, d', by rw [HT4.out, HQ.out.1]; rfl, HO4.out, HB4.out⟩
end Go.Proofs.Ytjmabidahofbbaa
