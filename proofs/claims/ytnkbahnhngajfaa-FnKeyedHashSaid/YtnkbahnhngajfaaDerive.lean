/- Derived keys, in the program and in its model. -/
import Derived.Test.YtnkbahnhngajfaaDerive0
namespace Go.Proofs.Ytnkbahnhngajfaa
open Go.ChangeShapes Go.WideShapes Go.ChangeAt Go.RowKit
set_option linter.unusedVariables false

def derivedOf (k : Int) (s : ByteArray) : Int := orOne (khash k (b2i (numsOf s)))
theorem b2i_fits {l : List Int} (h : Bs l) (hn : l.length ≤ 1048576) : Fits64 (b2i l) := by
  intro x hx
  rcases List.mem_cons.1 hx with rfl | hx
  · exact fit_mk (by omega) (by omega)
  · have := h x hx
    exact fit_mk (by omega) (by omega)

set_option maxRecDepth 100000 in
theorem derive_any (k : Int) (s : ByteArray) (w : World) (hk : Fit64 k) (hs : s.size ≤ 1048576) :
    Calls Try.prog 24 #[.int .i64 k, .string s] w (Told (.int .i64 (derivedOf k s)) w) := by
  have HK := Lib.hid hk
  clear hk
  have HBs := Lib.hid (numsOf_bs s)
  have hl := numsOf_len s
  have HL := Lib.hid hl
  clear hl
  go_enter Try.func24, Try.ntmps24
  go_wp2_with (with_reducible refine wpl_bytes _ rfl 9 22 5 (.tmp 6) rfl Try.underlying9 Try.underlying22 Try.underlying5 s rfl hs ?_)
  intro c1 w1 hn1 hb1
  have HN1 := Lib.hid hn1
  have HB1 := Lib.hid hb1
  clear hn1 hb1
  go_wp2_with fail
  refine (bytesToInts_any _ _ _ _ _ HN1.out (by omega) HBs.out).mono ?_
  rintro e w2 ⟨a2, n2, c2, rfl, ho2, hb2⟩
  have HO2 := Lib.hid ho2
  have HB2 := Lib.hid (HB1.out.trans (hb2.mono HB1.out.size))
  clear ho2 hb2
  go_wp2_with fail
  refine (keyedHash_same k _ _ _ _ _ HK.out HO2.out.nums (b2i_fits HBs.out (by rw [HL.out]; exact hs))).mono ?_
  rintro e w3 ⟨rfl, rfl⟩
  go_wp2_with fail
  refine (maxOne_any _ _).mono ?_
  rintro e w4 ⟨rfl, hb4⟩
  have HB4 := Lib.hid (HB2.out.trans (hb4.mono HB2.out.size))
  clear hb4
  go_wp2_with fail
  go_ret
  exact ⟨rfl, HB4.out⟩

set_option maxRecDepth 100000 in
theorem specDerive_any (k : Int) (s : ByteArray) (w : World) (hk : Fit64 k) (hs : s.size ≤ 1048576) :
    Calls Try.prog 40 #[.int .i64 k, .string s] w (Told (.int .i64 (derivedOf k s)) w) := by
  have HK := Lib.hid hk
  clear hk
  have HBs := Lib.hid (numsOf_bs s)
  have hl := numsOf_len s
  have HL := Lib.hid hl
  clear hl
  go_enter Try.func40, Try.ntmps40
  go_wp2_with (with_reducible refine wpl_bytes _ rfl 9 22 5 (.tmp 6) rfl Try.underlying9 Try.underlying22 Try.underlying5 s rfl hs ?_)
  intro c1 w1 hn1 hb1
  have HN1 := Lib.hid hn1
  have HB1 := Lib.hid hb1
  clear hn1 hb1
  go_wp2_with fail
  refine (specBytesToInts_any _ _ _ _ _ HN1.out (by omega) HBs.out).mono ?_
  rintro e w2 ⟨a2, n2, c2, rfl, ho2, hb2⟩
  have HO2 := Lib.hid ho2
  have HB2 := Lib.hid (HB1.out.trans (hb2.mono HB1.out.size))
  clear ho2 hb2
  go_wp2_with fail
  have hn2 : n2 ≤ 1000000000000 := by have h1 := HO2.out.len; rw [b2i_len, HL.out] at h1; omega
  refine (specKeyedHash_any k _ _ _ _ _ HK.out HO2.out.nums hn2 (b2i_fits HBs.out (by rw [HL.out]; exact hs))).mono ?_
  rintro e w3 ⟨rfl, hb3⟩
  have HB3 := Lib.hid (HB2.out.trans (hb3.mono HB2.out.size))
  clear hb3
  go_wp2_with fail
  refine (specMaxOne_any _ _).mono ?_
  rintro e w4 ⟨rfl, rfl⟩
  go_wp2_with fail
  go_ret
  exact ⟨rfl, HB3.out⟩
end Go.Proofs.Ytnkbahnhngajfaa
