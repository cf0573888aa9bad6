/- Registries: which tags are reserved, which lists of entries are registries: by the program and by the model. -/
import Derived.Test.YtdcbmblkdbaepaaEnt
import Derived.Test.YtdcbmblkdbaepaaNameI
import Derived.Test.YtdcbmblkdbaepaaUv
import Derived.Deep.RegionHeld3
import Derived.Deep.QuietTactic
import Derived.BigQuiet
import Derived.StillTailTactics
import Derived.Handy
namespace Go.Proofs.Ytdcbmblkdbaepaa
open Go.ChangeShapes Go.WideShapes Go.ChangeAt Go.RowKit
set_option linter.unusedVariables false

def inB (n l h : Int) : Bool := decide (l ≤ n ∧ n ≤ h)
theorem inB_yes {n l h : Int} (h1 : l ≤ n) (h2 : n ≤ h) : inB n l h = true := decide_eq_true ⟨h1, h2⟩
theorem inB_no {n l h : Int} (h1 : ¬ (l ≤ n ∧ n ≤ h)) : inB n l h = false := decide_eq_false h1
theorem inB_iff {n l h : Int} : inB n l h = true ↔ l ≤ n ∧ n ≤ h := by unfold inB; exact decide_eq_true_iff
/-- A reserved tag. -/
def resv (t : Int) : Bool := inB t 0 255 && (t % 16 == 10)
theorem resv_in {t : Int} (h : resv t = true) : 0 ≤ t ∧ t ≤ 255 := by
  unfold resv at h
  rw [Bool.and_eq_true] at h
  exact inB_iff.1 h.1
/-- A registry, the tags at least so great. -/
def regFrom (least : Int) : List En → Bool
  | [] => true
  | x :: t => inB x.tag least 255 && !resv x.tag && inB x.vend 0 9 && regFrom (x.tag + 1) t
def isReg (l : List En) : Bool := decide (l.length ≤ 12) && regFrom 0 l

theorem inR_b (n l h : Int) (w : World) : Calls Try.prog 45 #[.int .i64 n, .int .i64 l, .int .i64 h] w fun e w' => e = .returned (.bool (inB n l h)) ∧ w' = w := (inR_any n l h w).mono fun e' w' ⟨h1, h2⟩ => ⟨h1, h2.symm⟩
theorem l1R_b (n l h : Int) (w : World) : Calls Try.prog 48 #[.int .i64 n, .int .i64 l, .int .i64 h] w fun e w' => e = .returned (.bool (inB n l h)) ∧ w' = w := (l1R_any n l h w).mono fun e' w' ⟨h1, h2⟩ => ⟨h1, h2.symm⟩
set_option maxHeartbeats 1000000 in
set_option maxRecDepth 100000 in
theorem isReserved_any (t : Int) (w : World) : Calls Try.prog 16 #[.int .i64 t] w fun e w' => e = .returned (.bool (resv t)) ∧ w' = w := by
  have H := inR_b t 0 255
  by_cases h : 0 ≤ t ∧ t ≤ 255
  · have hb : inB t 0 255 = true := inB_yes h.1 h.2
    have hr : resv t = (t % 16 == 10) := by unfold resv; rw [hb]; rfl
    rw [hr]
    rw [hb] at H
    have h0 := h.1
    have h9 := h.2
    have hm : t.tmod 16 = t % 16 := Int.tmod_eq_emod_of_nonneg h0
    clear hb hr
    go_enter Try.func16, Try.ntmps16
    go_wp2_with (go_at_call 45; refine (H _).mono ?_; rintro e w' ⟨rfl, rfl⟩)
    go_ret
    simp
  · have hb : inB t 0 255 = false := inB_no h
    have hr : resv t = false := by unfold resv; rw [hb]; rfl
    rw [hr]
    rw [hb] at H
    clear hb hr
    go_enter Try.func16, Try.ntmps16
    go_wp2_with (go_at_call 45; refine (H _).mono ?_; rintro e w' ⟨rfl, rfl⟩)
    go_ret
    simp
set_option maxHeartbeats 1000000 in
set_option maxRecDepth 100000 in
theorem specIsReserved_any (t : Int) (w : World) : Calls Try.prog 23 #[.int .i64 t] w fun e w' => e = .returned (.bool (resv t)) ∧ w' = w := by
  have H := l1R_b t 0 255
  by_cases h : 0 ≤ t ∧ t ≤ 255
  · have hb : inB t 0 255 = true := inB_yes h.1 h.2
    have hr : resv t = (t % 16 == 10) := by unfold resv; rw [hb]; rfl
    rw [hr]
    rw [hb] at H
    have h0 := h.1
    have h9 := h.2
    have hm : t.tmod 16 = t % 16 := Int.tmod_eq_emod_of_nonneg h0
    clear hb hr
    go_enter Try.func23, Try.ntmps23
    go_wp2_with (go_at_call 48; refine (H _).mono ?_; rintro e w' ⟨rfl, rfl⟩)
    go_ret
    simp
  · have hb : inB t 0 255 = false := inB_no h
    have hr : resv t = false := by unfold resv; rw [hb]; rfl
    rw [hr]
    rw [hb] at H
    clear hb hr
    go_enter Try.func23, Try.ntmps23
    go_wp2_with (go_at_call 48; refine (H _).mono ?_; rintro e w' ⟨rfl, rfl⟩)
    go_ret
    simp
set_option maxRecDepth 100000 in
theorem isVendor_any (v : Int) (w : World) : Calls Try.prog 42 #[.int .i64 v] w fun e w' => e = .returned (.bool (inB v 0 9)) ∧ w' = w := by
  have H := inR_b v 0 9
  generalize inB v 0 9 = b at H ⊢
  go_enter Try.func42, Try.ntmps42
  go_wp2_with (go_at_call 45; refine (H _).mono ?_; rintro e w' ⟨rfl, rfl⟩)
  go_ret
  trivial

set_option maxHeartbeats 2000000 in
set_option maxRecDepth 100000 in
theorem isRegistry_any {a : Option Addr} {n c : Nat} {l : List En} {w : World} (h : Ens w a n l) :
    Calls Try.prog 14 #[.slice a n c] w (Told (.bool (isReg l)) w) := by
  have hn := h.fits
  have hlen := h.len
  have H := Lib.hid h
  clear h
  by_cases hbig : 12 < n
  · have hr : isReg l = false := by unfold isReg; rw [decide_eq_false (by omega)]; rfl
    rw [hr]
    clear hr
    go_enter Try.func14, Try.ntmps14
    go_wp2
    go_ret
    exact ⟨rfl, Below.refl _ _⟩
  · have hr : isReg l = regFrom 0 l := by unfold isReg; rw [decide_eq_true (by omega)]; rfl
    rw [hr]
    have HL : Hid (l.length = n) := hlen
    clear hr hlen
    go_enter Try.func14, Try.ntmps14
    go_wp2
    go_loopw [3, 5, 11] (fun q u i wr => ∃ (j : Nat) (least : Int), j ≤ n ∧ i = .int .i64 j ∧ q = .int .i64 least ∧ (0 ≤ least ∧ least ≤ 256) ∧ Hid (regFrom least (l.drop j) = regFrom 0 l) ∧ Hid (Below w.heap.size w wr)) (fun _ _ i _ => n - (intOf i).toNat)
    case atStart => exact ⟨0, 0, Nat.zero_le _, rfl, rfl, ⟨by omega, by omega⟩, rfl, Below.refl _ _⟩
    case round =>
      obtain ⟨j, least, hj, rfl, rfl, hle, HQ, HB⟩ := hrel
      by_cases hlt : j < n
      · obtain ⟨b, o, x, rfl, hx, hc0, hc1, hc2⟩ := ens_at (H.out.same HB.out) hlt
        have hd : l.drop j = x :: l.drop (j + 1) := by
          have hjl : j < l.length := by rw [HL.out]; exact hlt
          rw [List.drop_eq_getElem_cons hjl]
          rw [List.getElem?_eq_getElem hjl] at hx
          rw [Option.some.inj hx]
        have HQ2 : Hid ((inB x.tag least 255 && !resv x.tag && inB x.vend 0 9 && regFrom (x.tag + 1) (l.drop (j + 1))) = regFrom 0 l) := by
          have := HQ.out
          rw [hd, regFrom] at this
          exact this
        have h1 := inR_b x.tag least 255
        have h2 := isReserved_any x.tag
        have h3 := isVendor_any x.vend
        clear hx hd HQ
        have hone : inB x.tag least 255 = true → 0 ≤ x.tag ∧ x.tag ≤ 255 := fun e => by have := inB_iff.1 e; omega
        cases e1 : inB x.tag least 255 with
        | false =>
          rw [e1] at h1 HQ2
          have hres := HQ2.out
          simp only [Bool.false_and] at hres
          rw [← hres]
          clear HQ2 hres hone e1
          go_wp2_with (first | (go_at_call 45; refine (h1 _).mono ?_; rintro e w' ⟨rfl, rfl⟩) | (go_at_call 16; refine (h2 _).mono ?_; rintro e w' ⟨rfl, rfl⟩) | (go_at_call 42; refine (h3 _).mono ?_; rintro e w' ⟨rfl, rfl⟩))
          go_ret
          exact ⟨rfl, HB.out.alloc HB.out.size _⟩
        | true =>
          have hb := hone e1
          cases e2 : resv x.tag with
          | true =>
            rw [e1] at h1
            rw [e2] at h2
            rw [e1, e2] at HQ2
            have hres := HQ2.out
            simp only [Bool.not_true, Bool.and_false, Bool.false_and] at hres
            rw [← hres]
            clear HQ2 hres hone e1 e2
            go_wp2_with (first | (go_at_call 45; refine (h1 _).mono ?_; rintro e w' ⟨rfl, rfl⟩) | (go_at_call 16; refine (h2 _).mono ?_; rintro e w' ⟨rfl, rfl⟩) | (go_at_call 42; refine (h3 _).mono ?_; rintro e w' ⟨rfl, rfl⟩))
            go_ret
            exact ⟨rfl, HB.out.alloc HB.out.size _⟩
          | false =>
            cases e3 : inB x.vend 0 9 with
            | false =>
              rw [e1] at h1
              rw [e2] at h2
              rw [e3] at h3
              rw [e1, e2, e3] at HQ2
              have hres := HQ2.out
              simp only [Bool.and_false, Bool.false_and] at hres
              rw [← hres]
              clear HQ2 hres hone e1 e2 e3
              go_wp2_with (first | (go_at_call 45; refine (h1 _).mono ?_; rintro e w' ⟨rfl, rfl⟩) | (go_at_call 16; refine (h2 _).mono ?_; rintro e w' ⟨rfl, rfl⟩) | (go_at_call 42; refine (h3 _).mono ?_; rintro e w' ⟨rfl, rfl⟩))
              go_ret
              exact ⟨rfl, HB.out.alloc HB.out.size _⟩
            | true =>
              rw [e1] at h1
              rw [e2] at h2
              rw [e3] at h3
              rw [e1, e2, e3] at HQ2
              have hres := HQ2.out
              simp only [Bool.not_false, Bool.and_true, Bool.true_and] at hres
              have HR : Hid (regFrom (x.tag + 1) (l.drop (j + 1)) = regFrom 0 l) := hres
              clear HQ2 hres hone e1 e2 e3
              go_wp2_with (first | (go_at_call 45; refine (h1 _).mono ?_; rintro e w' ⟨rfl, rfl⟩) | (go_at_call 16; refine (h2 _).mono ?_; rintro e w' ⟨rfl, rfl⟩) | (go_at_call 42; refine (h3 _).mono ?_; rintro e w' ⟨rfl, rfl⟩))
              go_roundw
              case rel => exact ⟨j + 1, x.tag + 1, by omega, by go_num, by first | rfl | go_num, ⟨by omega, by omega⟩, HR, HB.out.alloc HB.out.size _⟩
              case measure => simp [intOf]; omega
      · obtain rfl : j = n := by omega
        have hd : l.drop j = [] := List.drop_eq_nil_of_le (by rw [HL.out]; exact Nat.le_refl _)
        have hres := HQ.out
        rw [hd, regFrom] at hres
        have HE : Hid (true = regFrom 0 l) := hres
        clear hres HQ hd
        go_wp2
        go_ret
        exact ⟨by rw [← HE.out]; rfl, HB.out⟩
end Go.Proofs.Ytdcbmblkdbaepaa
