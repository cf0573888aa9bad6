/- Registries: which tags are reserved, which lists of entries are registries: by the program and by the model. -/
import Derived.Test.YtjmabidahofbbaaEnt
import Derived.Test.YtjmabidahofbbaaRv
import Derived.Deep.RegionHeld3
import Derived.Deep.QuietTactic
import Derived.BigQuiet
import Derived.StillTailTactics
import Derived.Handy
namespace Go.Proofs.Ytjmabidahofbbaa
open Go.ChangeShapes Go.WideShapes Go.ChangeAt Go.RowKit
set_option linter.unusedVariables false

/-- A registry, the tags at least so great. -/
def regFrom (least : Int) : List En → Bool
  | [] => true
  | x :: t => inB x.tag least 255 && !resv x.tag && inB x.vend 0 9 && regFrom (x.tag + 1) t
def isReg (l : List En) : Bool := decide (l.length ≤ 12) && regFrom 0 l

set_option maxRecDepth 100000 in
theorem isVendor_any (v : Int) (w : World) : Calls Try.prog 68 #[.int .i64 v] w fun e w' => e = .returned (.bool (inB v 0 9)) ∧ w' = w := by
  have H := inR_b v 0 9
  generalize inB v 0 9 = b at H ⊢
  go_enter Try.func68, Try.ntmps68
  go_wp2_with (go_at_call 55; refine (H _).mono ?_; rintro e w' ⟨rfl, rfl⟩)
  go_ret
  trivial

set_option maxHeartbeats 2000000 in
set_option maxRecDepth 100000 in
theorem isRegistry_any {a : Option Addr} {n c : Nat} {l : List En} {w : World} (h : Ens w a n l) :
    Calls Try.prog 24 #[.slice a n c] w (Told (.bool (isReg l)) w) := by
  have hn := h.fits
  have hlen := h.len
  have H := Lib.hid h
  clear h
  by_cases hbig : 12 < n
  · have hr : isReg l = false := by unfold isReg; rw [decide_eq_false (by omega)]; rfl
    rw [hr]
    clear hr
    go_enter Try.func24, Try.ntmps24
    go_wp2
    go_ret
    exact ⟨rfl, Below.refl _ _⟩
  · have hr : isReg l = regFrom 0 l := by unfold isReg; rw [decide_eq_true (by omega)]; rfl
    rw [hr]
    have HL : Hid (l.length = n) := hlen
    clear hr hlen
    go_enter Try.func24, Try.ntmps24
    go_wp2
    go_loopw [3, 5, 11] (fun q u i wr => ∃ (j : Nat) (least : Int), j ≤ n ∧ i = .int .i64 j ∧ q = .int .i64 least ∧ (0 ≤ least ∧ least ≤ 256) ∧ Hid (regFrom least (l.drop j) = regFrom 0 l) ∧ Hid (Below w.heap.size w wr)) (fun _ _ i _ => n - (intOf i).toNat)
    case atStart => exact ⟨0, 0, Nat.zero_le _, rfl, rfl, ⟨by omega, by omega⟩, rfl, Below.refl _ _⟩
    case round =>
      obtain ⟨j, least, hj, rfl, rfl, hle, HQ, HB⟩ := hrel
      by_cases hlt : j < n
      · obtain ⟨b, o, x, rfl, hx, hc0, hc1, hc2⟩ := ens_at (H.out.same HB.out) hlt
        have hd : l.drop j = x :: l.drop (j + 1) := by
          have hjl : j < l.length := by rw [HL.out]; exact hlt
          rw [List.drop_eq_getElem_cons hjl]
          rw [List.getElem?_eq_getElem hjl] at hx
          rw [Option.some.inj hx]
        have HQ2 : Hid ((inB x.tag least 255 && !resv x.tag && inB x.vend 0 9 && regFrom (x.tag + 1) (l.drop (j + 1))) = regFrom 0 l) := by
          have := HQ.out
          rw [hd, regFrom] at this
          exact this
        have h1 := inR_b x.tag least 255
        have h2 := isReserved_any x.tag
        have h3 := isVendor_any x.vend
        clear hx hd HQ
        have hone : inB x.tag least 255 = true → 0 ≤ x.tag ∧ x.tag ≤ 255 := fun e => by have := inB_iff.1 e; omega
        cases e1 : inB x.tag least 255 with
        | false =>
          rw [e1] at h1 HQ2
          have hres := HQ2.out
          simp only [Bool.false_and] at hres
          rw [← hres]
          clear HQ2 hres hone e1
          go_wp2_with (first | (go_at_call 55; refine (h1 _).mono ?_; rintro e w' ⟨rfl, rfl⟩) | (go_at_call 26; refine (h2 _).mono ?_; rintro e w' ⟨rfl, rfl⟩) | (go_at_call 68; refine (h3 _).mono ?_; rintro e w' ⟨rfl, rfl⟩))
          go_ret
          exact ⟨rfl, HB.out.alloc HB.out.size _⟩
        | true =>
          have hb := hone e1
          cases e2 : resv x.tag with
          | true =>
            rw [e1] at h1
            rw [e2] at h2
            rw [e1, e2] at HQ2
            have hres := HQ2.out
            simp only [Bool.not_true, Bool.and_false, Bool.false_and] at hres
            rw [← hres]
            clear HQ2 hres hone e1 e2
            go_wp2_with (first | (go_at_call 55; refine (h1 _).mono ?_; rintro e w' ⟨rfl, rfl⟩) | (go_at_call 26; refine (h2 _).mono ?_; rintro e w' ⟨rfl, rfl⟩) | (go_at_call 68; refine (h3 _).mono ?_; rintro e w' ⟨rfl, rfl⟩))
            go_ret
            exact ⟨rfl, HB.out.alloc HB.out.size _⟩
          | false =>
            cases e3 : inB x.vend 0 9 with
            | false =>
              rw [e1] at h1
              rw [e2] at h2
              rw [e3] at h3
              rw [e1, e2, e3] at HQ2
              have hres := HQ2.out
              simp only [Bool.and_false, Bool.false_and] at hres
              rw [← hres]
              clear HQ2 hres hone e1 e2 e3
              go_wp2_with (first | (go_at_call 55; refine (h1 _).mono ?_; rintro e w' ⟨rfl, rfl⟩) | (go_at_call 26; refine (h2 _).mono ?_; rintro e w' ⟨rfl, rfl⟩) | (go_at_call 68; refine (h3 _).mono ?_; rintro e w' ⟨rfl, rfl⟩))
              go_ret
              exact ⟨rfl, HB.out.alloc HB.out.size _⟩
            | true =>
              rw [e1] at h1
              rw [e2] at h2
              rw [e3] at h3
              rw [e1, e2, e3] at HQ2
              have hres := HQ2.out
              simp only [Bool.not_false, Bool.and_true, Bool.true_and] at hres
              have HR : Hid (regFrom (x.tag + 1) (l.drop (j + 1)) = regFrom 0 l) := hres
              clear HQ2 hres hone e1 e2 e3
              go_wp2_with (first | (go_at_call 55; refine (h1 _).mono ?_; rintro e w' ⟨rfl, rfl⟩) | (go_at_call 26; refine (h2 _).mono ?_; rintro e w' ⟨rfl, rfl⟩) | (go_at_call 68; refine (h3 _).mono ?_; rintro e w' ⟨rfl, rfl⟩))
              go_roundw
              case rel => exact ⟨j + 1, x.tag + 1, by omega, by go_num, by first | rfl | go_num, ⟨by omega, by omega⟩, HR, HB.out.alloc HB.out.size _⟩
              case measure => simp [intOf]; omega
      · obtain rfl : j = n := by omega
        have hd : l.drop j = [] := List.drop_eq_nil_of_le (by rw [HL.out]; exact Nat.le_refl _)
        have hres := HQ.out
        rw [hd, regFrom] at hres
        have HE : Hid (true = regFrom 0 l) := hres
        clear hres HQ hd
        go_wp2
        go_ret
        exact ⟨by rw [← HE.out]; rfl, HB.out⟩
end Go.Proofs.Ytjmabidahofbbaa
