/- Live tags, and tags that clash: the model; live tags by the program. -/
import Derived.Test.YtjmabidahofbbaaRgM
import Derived.Test.YtjmabidahofbbaaIntT
namespace Go.Proofs.Ytjmabidahofbbaa
open Go.ChangeShapes Go.WideShapes Go.ChangeAt Go.RowKit
set_option linter.unusedVariables false

theorem nums_new1 (w : World) (o : Obj) (k : IntKind) (x : Int) (t : TypeId) : Nums k ((w.alloc o).alloc (.cells #[.int k x] t)) (some ⟨w.heap.size + 1, 0, none⟩) 1 [x] := by
  have := nums_new (w.alloc o) k x t
  rw [World.size_alloc] at this
  exact this
set_option maxHeartbeats 1000000 in
set_option maxRecDepth 100000 in
theorem liveTags_any {a : Option Addr} {n c : Nat} {l : List En} {w : World} (h : Ens w a n l) (hn : n ≤ 1048576000) :
    Calls Try.prog 29 #[.slice a n c] w (Made .i64 3 w.heap.size (liveOf l) w) := by
  have H := Lib.hid h
  have hln := Lib.hid h.len
  clear h
  obtain ⟨i0, hi, hz0, hz1, hz2⟩ := info_parts infoIntS
  have HI := Lib.hid (And.intro hi (And.intro hz0 (And.intro hz1 hz2)))
  clear hi hz0 hz1 hz2
  have HO : Hid (Own .i64 3 (w.alloc (.cells #[] 3)) w.heap.size (some ⟨w.heap.size, 0, none⟩) 0 0 (liveOf (l.take 0))) := Lib.hid (by rw [List.take_zero]; exact Own.empty (Nat.le_refl _))
  have HB : Hid (Below w.heap.size w (w.alloc (.cells #[] 3))) := Lib.hid (alloc_same _ _)
  go_enter Try.func29, Try.ntmps29
  go_wp2_with fail
  go_loopw [3, 5, 9] (fun v u i wr => ∃ (j m : Nat) (q : Option Addr) (d : Nat), j ≤ n ∧ m ≤ j ∧ i = .int .i64 j ∧ v = .slice q m d ∧ Own .i64 3 wr w.heap.size q m d (liveOf (l.take j)) ∧ Below w.heap.size w wr) (fun _ _ i _ => n - (intOf i).toNat)
  case atStart => exact ⟨0, 0, _, _, Nat.zero_le _, Nat.le_refl _, rfl, rfl, HO.out, HB.out⟩
  case round =>
    obtain ⟨j, m, q, d, hj, hm, rfl, rfl, hown, hb⟩ := hrel
    have HO2 := Lib.hid hown
    have HB2 := Lib.hid hb
    clear hown hb
    by_cases hlt : j < n
    · obtain ⟨b, o, x, rfl, hx, hc0, hc1, hc2⟩ := ens_at (H.out.same HB2.out) hlt
      have HX := Lib.hid (liveOf_step hx)
      have hsz := HB2.out.size
      clear hx
      cases ho : x.old with
      | true =>
        rw [ho] at hc2
        have HY : Hid (liveOf (l.take (j + 1)) = liveOf (l.take j)) := Lib.hid (by rw [HX.out, ho]; rfl)
        clear ho
        go_wp2
        go_roundw
        case rel => exact ⟨j + 1, m, q, d, by omega, by omega, by go_num, rfl, by rw [HY.out]; exact HO2.out.alloc _, HB2.out.alloc hsz _⟩
        case measure => simp [intOf]; omega
      | false =>
        rw [ho] at hc2
        have HY : Hid (liveOf (l.take (j + 1)) = liveOf (l.take j) ++ [x.tag]) := Lib.hid (by rw [HX.out, ho]; rfl)
        clear ho
        go_wp2_with (at_builtin; refine wpl_app _ rfl (.tmp 16) (.tmp 19) 29 rfl .i64 3 i0 (.int .i64 0) 8 Try.underlying29 HI.out.1 HI.out.2.1 HI.out.2.2.1 HI.out.2.2.2 rfl rfl ((HO2.out.alloc _).alloc _) rfl (nums_new1 _ _ _ _ _) (by omega) ?c1 ?c2 ?_)
        case c1 => omega
        case c2 => simp; omega
        intro a3 c3 w3 ho3 hb3
        have HO3 : Hid (Own .i64 3 w3 w.heap.size a3 (m + 1) c3 (liveOf (l.take (j + 1)))) := Lib.hid (by rw [HY.out]; exact ho3)
        have HB3 : Hid (Below w.heap.size w w3) := Lib.hid (HB2.out.trans ((((alloc_same wr _).mono hsz).alloc (by simp; omega) _).trans hb3))
        clear ho3 hb3 hc0 hc1 hc2
        go_wp2_with fail
        go_roundw
        case rel => exact ⟨j + 1, m + 1, a3, c3, by omega, by omega, by go_num, rfl, HO3.out, HB3.out⟩
        case measure => simp [intOf]; omega
    · obtain rfl : j = n := by omega
      go_wp2
      go_ret
      have h1 := HO2.out
      rw [List.take_of_length_le (by rw [hln.out]; omega)] at h1
      exact ⟨_, _, _, rfl, h1, HB2.out⟩
set_option maxHeartbeats 1000000 in
set_option maxRecDepth 100000 in
theorem specLiveTags_any {a : Option Addr} {n c : Nat} {l : List En} {w : World} (h : Ens w a n l) (hn : n ≤ 1048576000) :
    Calls Try.prog 32 #[.slice a n c] w (Made .i64 3 w.heap.size (liveOf l) w) := by
  have H := Lib.hid h
  have hln := Lib.hid h.len
  clear h
  obtain ⟨i0, hi, hz0, hz1, hz2⟩ := info_parts infoIntS
  have HI := Lib.hid (And.intro hi (And.intro hz0 (And.intro hz1 hz2)))
  clear hi hz0 hz1 hz2
  have HO : Hid (Own .i64 3 (w.alloc (.cells #[] 3)) w.heap.size (some ⟨w.heap.size, 0, none⟩) 0 0 (liveOf (l.take 0))) := Lib.hid (by rw [List.take_zero]; exact Own.empty (Nat.le_refl _))
  have HB : Hid (Below w.heap.size w (w.alloc (.cells #[] 3))) := Lib.hid (alloc_same _ _)
  go_enter Try.func32, Try.ntmps32
  go_wp2_with fail
  go_loopw [3, 4] (fun v i wr => ∃ (j m : Nat) (q : Option Addr) (d : Nat), j ≤ n ∧ m ≤ j ∧ i = .int .i64 j ∧ v = .slice q m d ∧ Own .i64 3 wr w.heap.size q m d (liveOf (l.take j)) ∧ Below w.heap.size w wr) (fun _ i _ => n - (intOf i).toNat)
  case atStart => exact ⟨0, 0, _, _, Nat.zero_le _, Nat.le_refl _, rfl, rfl, HO.out, HB.out⟩
  case round =>
    obtain ⟨j, m, q, d, hj, hm, rfl, rfl, hown, hb⟩ := hrel
    have HO2 := Lib.hid hown
    have HB2 := Lib.hid hb
    clear hown hb
    by_cases hlt : j < n
    · obtain ⟨b, o, x, rfl, hx, hc0, hc1, hc2⟩ := ens_at (H.out.same HB2.out) hlt
      have HX := Lib.hid (liveOf_step hx)
      have hsz := HB2.out.size
      clear hx
      cases ho : x.old with
      | true =>
        rw [ho] at hc2
        have HY : Hid (liveOf (l.take (j + 1)) = liveOf (l.take j)) := Lib.hid (by rw [HX.out, ho]; rfl)
        clear ho
        go_wp2
        go_roundw
        case rel => exact ⟨j + 1, m, q, d, by omega, by omega, by go_num, rfl, by rw [HY.out]; exact HO2.out, HB2.out⟩
        case measure => simp [intOf]; omega
      | false =>
        rw [ho] at hc2
        have HY : Hid (liveOf (l.take (j + 1)) = liveOf (l.take j) ++ [x.tag]) := Lib.hid (by rw [HX.out, ho]; rfl)
        clear ho
        go_wp2_with (at_builtin; refine wpl_app _ rfl (.tmp 18) (.tmp 24) 29 rfl .i64 3 i0 (.int .i64 0) 8 Try.underlying29 HI.out.1 HI.out.2.1 HI.out.2.2.1 HI.out.2.2.2 rfl rfl (HO2.out.alloc _) rfl (nums_new _ _ _ _) (by omega) ?c1 ?c2 ?_)
        case c1 => omega
        case c2 => simp; omega
        intro a3 c3 w3 ho3 hb3
        have HO3 : Hid (Own .i64 3 w3 w.heap.size a3 (m + 1) c3 (liveOf (l.take (j + 1)))) := Lib.hid (by rw [HY.out]; exact ho3)
        have HB3 : Hid (Below w.heap.size w w3) := Lib.hid (HB2.out.trans (((alloc_same wr _).mono hsz).trans hb3))
        clear ho3 hb3 hc0 hc1 hc2
        go_wp2_with fail
        go_roundw
        case rel => exact ⟨j + 1, m + 1, a3, c3, by omega, by omega, by go_num, rfl, HO3.out, HB3.out⟩
        case measure => simp [intOf]; omega
    · obtain rfl : j = n := by omega
      go_wp2
      go_ret
      have h1 := HO2.out
      rw [List.take_of_length_le (by rw [hln.out]; omega)] at h1
      exact ⟨_, _, _, rfl, h1, HB2.out⟩

/-- The tags that clash: reserved ones, and those of another vendor. -/
def isClash (l : List En) (v t : Int) : Bool := resv t || (decide (0 ≤ ownOf l t) && !(ownOf l t == v))
def clashOf (l : List En) (v : Int) (T : List Int) : List Int := T.filter (isClash l v)
theorem clashOf_step (l : List En) (v : Int) {T : List Int} {j : Nat} {x : Int} (h : T[j]? = some x) : clashOf l v (T.take (j + 1)) = if isClash l v x then clashOf l v (T.take j) ++ [x] else clashOf l v (T.take j) := by
  unfold clashOf
  rw [List.take_add_one, h, List.filter_append]
  cases e : isClash l v x <;> simp [e]
theorem clashOf_len (l : List En) (v : Int) (T : List Int) : (clashOf l v T).length ≤ T.length := List.length_filter_le _ _
set_option maxHeartbeats 2000000 in
set_option maxRecDepth 100000 in
theorem specClashOf_any {a b : Option Addr} {n c k e : Nat} {l : List En} {T : List Int} {v : Int} {w : World} (h : Ens w a n l) (h' : Nums .i64 w b k T) (hk : k ≤ 1048576000) :
    Calls Try.prog 46 #[.slice a n c, .slice b k e, .int .i64 v] w (Made .i64 3 w.heap.size (clashOf l v T) w) := by
  have H := Lib.hid h
  have HT := Lib.hid h'
  have hln := Lib.hid h'.len
  clear h h'
  obtain ⟨i0, hi, hz0, hz1, hz2⟩ := info_parts infoIntS
  have HI := Lib.hid (And.intro hi (And.intro hz0 (And.intro hz1 hz2)))
  clear hi hz0 hz1 hz2
  have HO : Hid (Own .i64 3 (w.alloc (.cells #[] 3)) w.heap.size (some ⟨w.heap.size, 0, none⟩) 0 0 (clashOf l v (T.take 0))) := Lib.hid (by rw [List.take_zero]; exact Own.empty (Nat.le_refl _))
  have HB : Hid (Below w.heap.size w (w.alloc (.cells #[] 3))) := Lib.hid (alloc_same _ _)
  go_enter Try.func46, Try.ntmps46
  go_wp2_with fail
  go_loopw [7, 8, 9] (fun s i u wr => ∃ (j m : Nat) (q : Option Addr) (d : Nat), j ≤ k ∧ m ≤ j ∧ i = .int .i64 j ∧ s = .slice q m d ∧ Own .i64 3 wr w.heap.size q m d (clashOf l v (T.take j)) ∧ Below w.heap.size w wr) (fun _ i _ _ => k - (intOf i).toNat)
  case atStart => exact ⟨0, 0, _, _, Nat.zero_le _, Nat.le_refl _, rfl, rfl, HO.out, HB.out⟩
  case round =>
    obtain ⟨j, m, q, d, hj, hm, rfl, rfl, hown, hb⟩ := hrel
    have HO2 := Lib.hid hown
    have HB2 := Lib.hid hb
    clear hown hb
    by_cases hlt : j < k
    · obtain ⟨ad, x, rfl, hx, hc⟩ := (HT.out.same HB2.out).at_ hlt
      have HX := Lib.hid (clashOf_step l v hx)
      have hsz := HB2.out.size
      have h1 := fun W hW => specOwnerOf_any (c := c) (w := W) x (H.out.same hW)
      have h2 := specIsReserved_any x
      clear hx
      obtain ⟨o, hov⟩ : ∃ o, ownOf l x = o := ⟨_, rfl⟩
      obtain ⟨r, hr⟩ : ∃ r, resv x = r := ⟨_, rfl⟩
      rw [hov] at h1
      rw [hr] at h2
      have HC : Hid (isClash l v x = (r || (decide (0 ≤ o) && !(o == v)))) := Lib.hid (by unfold isClash; rw [hov, hr])
      clear hov hr
      by_cases ho0 : 0 ≤ o
      · have ho1 : decide (0 ≤ o) = true := decide_eq_true ho0
        by_cases hoe : o = v
        · have e1 : (o == v) = true := by simp [hoe]
          have e2 : (o != v) = false := by simp [hoe]
          have HOE := Lib.hid hoe
          have HC2 : Hid (isClash l v x = r) := Lib.hid (by rw [HC.out, e1]; simp)
          clear hoe
          cases r with
          | true =>
            go_wp2_with (first | (go_at_call 39; refine (h1 _ HB2.out).mono ?_; rintro e w' ⟨rfl, rfl⟩) | (go_at_call 77; refine (h2 _).mono ?_; rintro e w' ⟨rfl, rfl⟩) | (at_builtin; refine wpl_app _ rfl (.tmp 37) (.tmp 42) 29 rfl .i64 3 i0 (.int .i64 0) 8 Try.underlying29 HI.out.1 HI.out.2.1 HI.out.2.2.1 HI.out.2.2.2 rfl rfl (HO2.out.alloc _) rfl (nums_new _ _ _ _) (by omega) ?c1 ?c2 ?_))
            case c1 => omega
            case c2 => simp; omega
            intro a3 c3 w3 ho3 hb3
            have HO3 : Hid (Own .i64 3 w3 w.heap.size a3 (m + 1) c3 (clashOf l v (T.take (j + 1)))) := Lib.hid (by rw [HX.out, HC2.out, if_pos rfl]; exact ho3)
            have HB3 : Hid (Below w.heap.size w w3) := Lib.hid (HB2.out.trans (((alloc_same _ _).mono hsz).trans hb3))
            clear ho3 hb3 hc
            go_wp2_with fail
            go_roundw
            case rel => exact ⟨j + 1, m + 1, a3, c3, by omega, by omega, by go_num, rfl, HO3.out, HB3.out⟩
            case measure => simp [intOf]; omega
          | false =>
            go_wp2_with (first | (go_at_call 39; refine (h1 _ HB2.out).mono ?_; rintro e w' ⟨rfl, rfl⟩) | (go_at_call 77; refine (h2 _).mono ?_; rintro e w' ⟨rfl, rfl⟩))
            go_roundw
            case rel => exact ⟨j + 1, m, q, d, by omega, by omega, by go_num, rfl, by rw [HX.out, HC2.out, if_neg (by simp)]; exact HO2.out, HB2.out⟩
            case measure => simp [intOf]; omega
        · have e1 : (o == v) = false := by simp [hoe]
          have e2 : (o != v) = true := by simp [hoe]
          have HC2 : Hid (isClash l v x = true) := Lib.hid (by rw [HC.out, e1, ho1]; simp)
          clear hoe
          cases r with
          | true =>
            go_wp2_with (first | (go_at_call 39; refine (h1 _ HB2.out).mono ?_; rintro e w' ⟨rfl, rfl⟩) | (go_at_call 77; refine (h2 _).mono ?_; rintro e w' ⟨rfl, rfl⟩) | (at_builtin; refine wpl_app _ rfl (.tmp 37) (.tmp 42) 29 rfl .i64 3 i0 (.int .i64 0) 8 Try.underlying29 HI.out.1 HI.out.2.1 HI.out.2.2.1 HI.out.2.2.2 rfl rfl (HO2.out.alloc _) rfl (nums_new _ _ _ _) (by omega) ?c1 ?c2 ?_))
            case c1 => omega
            case c2 => simp; omega
            intro a3 c3 w3 ho3 hb3
            have HO3 : Hid (Own .i64 3 w3 w.heap.size a3 (m + 1) c3 (clashOf l v (T.take (j + 1)))) := Lib.hid (by rw [HX.out, HC2.out, if_pos rfl]; exact ho3)
            have HB3 : Hid (Below w.heap.size w w3) := Lib.hid (HB2.out.trans (((alloc_same _ _).mono hsz).trans hb3))
            clear ho3 hb3 hc
            go_wp2_with fail
            go_roundw
            case rel => exact ⟨j + 1, m + 1, a3, c3, by omega, by omega, by go_num, rfl, HO3.out, HB3.out⟩
            case measure => simp [intOf]; omega
          | false =>
            go_wp2_with (first | (go_at_call 39; refine (h1 _ HB2.out).mono ?_; rintro e w' ⟨rfl, rfl⟩) | (go_at_call 77; refine (h2 _).mono ?_; rintro e w' ⟨rfl, rfl⟩) | (at_builtin; refine wpl_app _ rfl (.tmp 37) (.tmp 42) 29 rfl .i64 3 i0 (.int .i64 0) 8 Try.underlying29 HI.out.1 HI.out.2.1 HI.out.2.2.1 HI.out.2.2.2 rfl rfl (HO2.out.alloc _) rfl (nums_new _ _ _ _) (by omega) ?c1 ?c2 ?_))
            case c1 => omega
            case c2 => simp; omega
            intro a3 c3 w3 ho3 hb3
            have HO3 : Hid (Own .i64 3 w3 w.heap.size a3 (m + 1) c3 (clashOf l v (T.take (j + 1)))) := Lib.hid (by rw [HX.out, HC2.out, if_pos rfl]; exact ho3)
            have HB3 : Hid (Below w.heap.size w w3) := Lib.hid (HB2.out.trans (((alloc_same _ _).mono hsz).trans hb3))
            clear ho3 hb3 hc
            go_wp2_with fail
            go_roundw
            case rel => exact ⟨j + 1, m + 1, a3, c3, by omega, by omega, by go_num, rfl, HO3.out, HB3.out⟩
            case measure => simp [intOf]; omega
      · have ho1 : decide (0 ≤ o) = false := decide_eq_false ho0
        have HC2 : Hid (isClash l v x = r) := Lib.hid (by rw [HC.out, ho1]; simp)
        have ho2 : o < 0 := by omega
        cases r with
        | true =>
          go_wp2_with (first | (go_at_call 39; refine (h1 _ HB2.out).mono ?_; rintro e w' ⟨rfl, rfl⟩) | (go_at_call 77; refine (h2 _).mono ?_; rintro e w' ⟨rfl, rfl⟩) | (at_builtin; refine wpl_app _ rfl (.tmp 37) (.tmp 42) 29 rfl .i64 3 i0 (.int .i64 0) 8 Try.underlying29 HI.out.1 HI.out.2.1 HI.out.2.2.1 HI.out.2.2.2 rfl rfl (HO2.out.alloc _) rfl (nums_new _ _ _ _) (by omega) ?c1 ?c2 ?_))
          case c1 => omega
          case c2 => simp; omega
          intro a3 c3 w3 ho3 hb3
          have HO3 : Hid (Own .i64 3 w3 w.heap.size a3 (m + 1) c3 (clashOf l v (T.take (j + 1)))) := Lib.hid (by rw [HX.out, HC2.out, if_pos rfl]; exact ho3)
          have HB3 : Hid (Below w.heap.size w w3) := Lib.hid (HB2.out.trans (((alloc_same _ _).mono hsz).trans hb3))
          clear ho3 hb3 hc
          go_wp2_with fail
          go_roundw
          case rel => exact ⟨j + 1, m + 1, a3, c3, by omega, by omega, by go_num, rfl, HO3.out, HB3.out⟩
          case measure => simp [intOf]; omega
        | false =>
          go_wp2_with (first | (go_at_call 39; refine (h1 _ HB2.out).mono ?_; rintro e w' ⟨rfl, rfl⟩) | (go_at_call 77; refine (h2 _).mono ?_; rintro e w' ⟨rfl, rfl⟩))
          go_roundw
          case rel => exact ⟨j + 1, m, q, d, by omega, by omega, by go_num, rfl, by rw [HX.out, HC2.out, if_neg (by simp)]; exact HO2.out, HB2.out⟩
          case measure => simp [intOf]; omega
    · obtain rfl : j = k := by omega
      go_wp2
      go_ret
      have h1 := HO2.out
      rw [List.take_of_length_le (by rw [hln.out]; omega)] at h1
      exact ⟨_, _, _, rfl, h1, HB2.out⟩
end Go.Proofs.Ytjmabidahofbbaa
