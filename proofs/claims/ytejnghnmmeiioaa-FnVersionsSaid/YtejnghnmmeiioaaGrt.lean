/- The greatest version of a word, how many bits it has, by the program: the greatest common version of two lists, the runs of one. -/
import Derived.Test.YtejnghnmmeiioaaWd
import Derived.Lib.Strings
import Derived.Lib.Small
import Derived.Lib.Tables
import Derived.Lib.BitFns
import Derived.RegionTactic
import Derived.Deep.QuietTactic
import Derived.BigQuiet
namespace Go.Proofs.Ytejnghnmmeiioaa
open Go.ChangeShapes Go.WideShapes Go.ChangeAt Go.RowKit
set_option linter.unusedVariables false
set_option linter.unusedSimpArgs false

theorem len_size : Lib.len8tab.size = 256 := by decide +kernel
theorem pop_size : Lib.pop8tab.size = 256 := by decide +kernel
theorem len_tab : ∀ i : Fin 256, (Lib.len8tab[i.val]'(by rw [len_size]; exact i.isLt)).toNat = Lib.bitLen i.val := by decide +kernel
theorem pop_tab : ∀ i : Fin 256, (Lib.pop8tab[i.val]'(by rw [pop_size]; exact i.isLt)).toNat = Lib.onesCount i.val := by decide +kernel
theorem len_two : ∀ x : Fin 512, (x.val < 256 ∧ Lib.bitLen x.val ≤ 8) ∨ (256 ≤ x.val ∧ Lib.bitLen x.val = 8 + Lib.bitLen (x.val / 256)) := by decide +kernel
set_option maxRecDepth 100000 in
set_option maxHeartbeats 1000000 in
theorem len16_any (x : Nat) (hx : x < 512) (w : World) : Calls Try.prog 50 #[.int .u16 (x : Int)] w fun e w' => e = .returned (.int .i64 (Lib.bitLen x : Int)) ∧ w' = w := by
  have h2 := len_two ⟨x, hx⟩
  dsimp only at h2
  by_cases h : 256 ≤ x
  · have hs : (x : Int) / 256 < (Lib.len8tab.size : Int) := by rw [len_size]; omega
    have hx2 : x / 256 < Lib.len8tab.size := by rw [len_size]; omega
    have ht : (Lib.len8tab[x / 256]'hx2).toNat = Lib.bitLen (x / 256) := len_tab ⟨x / 256, by omega⟩
    have hb : Lib.bitLen x = 8 + Lib.bitLen (x / 256) := by omega
    have h9 : Lib.bitLen (x / 256) ≤ 9 := (t_great ⟨x / 256, by omega⟩).2.2.2.1
    have HT := Lib.hid ht
    have HB := Lib.hid hb
    have H9 := Lib.hid h9
    clear ht hb h9 h2
    go_enter Try.func50, Try.ntmps50
    go_wp2
    go_ret
    refine ⟨congrArg Ending.returned (congrArg (Value.int IntKind.i64) ?_), rfl⟩
    have h9 := H9.out
    have e1 : wrap64 ((Lib.bitLen (x / 256) : Nat) : Int) = ((Lib.bitLen (x / 256) : Nat) : Int) := IntWalk.wrap64_in _ (by omega)
    have e2 : wrap64 (8 + ((Lib.bitLen (x / 256) : Nat) : Int)) = 8 + ((Lib.bitLen (x / 256) : Nat) : Int) := IntWalk.wrap64_in _ (by omega)
    rw [HT.out, HB.out, e1, e2]
    omega
  · have hs : (x : Int) < (Lib.len8tab.size : Int) := by rw [len_size]; omega
    have hx2 : x < Lib.len8tab.size := by rw [len_size]; omega
    have ht : (Lib.len8tab[x]'hx2).toNat = Lib.bitLen x := len_tab ⟨x, by omega⟩
    have hb : Lib.bitLen x ≤ 8 := by omega
    have HT := Lib.hid ht
    have HB := Lib.hid hb
    clear ht hb h2
    go_enter Try.func50, Try.ntmps50
    go_wp2
    go_ret
    refine ⟨congrArg Ending.returned (congrArg (Value.int IntKind.i64) ?_), rfl⟩
    have h9 := HB.out
    have e1 : wrap64 ((Lib.bitLen x : Nat) : Int) = ((Lib.bitLen x : Nat) : Int) := IntWalk.wrap64_in _ (by omega)
    rw [HT.out, e1]
    first | done | exact e1 | omega

theorem greatest_any (x : Nat) (hx : x < 512) (w : World) : Calls Try.prog 34 #[.int .u16 (x : Int)] w fun e w' => e = .returned (.int .i64 (Lib.bitLen x : Int)) ∧ w' = w := by
  have H := len16_any x hx
  go_enter Try.func34, Try.ntmps34
  go_wp2_with (go_at_call 50; refine (H _).mono ?_; rintro e w' ⟨rfl, rfl⟩)
  go_ret
  exact ⟨rfl, rfl⟩
set_option maxRecDepth 100000 in
set_option maxHeartbeats 1000000 in
theorem bestCommon_any {a b : Option Addr} {n m c d : Nat} {l l' : List Int} {w : World} (h : Nums .i64 w a n l) (h' : Nums .i64 w b m l') :
    Calls Try.prog 12 #[.slice a n c, .slice b m d] w fun e w' => e = .returned (.int .i64 (best l l' : Int)) ∧ w = w' := by
  have H := Lib.hid (versionsOf_any (c := c) h)
  have H' := Lib.hid (versionsOf_any (c := d) h')
  have HA := word_and (word_lt l) (word_lt l')
  obtain ⟨q, hq⟩ : ∃ q : Nat, (word l &&& word l') = q := ⟨_, rfl⟩
  have HL : Hid (q < 512) := Lib.hid (by rw [← hq]; exact and_w l l')
  have HE : Hid (best l l' = Lib.bitLen q) := Lib.hid (by rw [← hq]; rfl)
  rw [hq] at HA
  clear h h' hq
  go_enter Try.func12, Try.ntmps12
  go_wp2_with fail
  refine H.out.mono ?_
  rintro e w' ⟨rfl, rfl⟩
  go_wp2_with fail
  refine H'.out.mono ?_
  rintro e w' ⟨rfl, rfl⟩
  go_wp2_with fail
  refine (greatest_any q HL.out _).mono ?_
  rintro e w' ⟨rfl, rfl⟩
  go_wp2_with fail
  go_ret
  exact ⟨by rw [HE.out]; rfl, rfl⟩
set_option maxRecDepth 100000 in
set_option maxHeartbeats 1000000 in
theorem onesCount16_any (x : Nat) (hx : x < 512) (w : World) : Calls Try.prog 44 #[.int .u16 (x : Int)] w fun e w' => e = .returned (.int .i64 (pop16 x : Int)) ∧ Below w.heap.size w w' := by
  have e255 : bits .and .u16 (x : Int) 255 = (x : Int) % 256 := by
    have : ∀ y : Fin 512, bits .and .u16 (y.val : Int) 255 = (y.val : Int) % 256 := by decide +kernel
    exact this ⟨x, hx⟩
  have hs1 : (x : Int) / 256 < (Lib.pop8tab.size : Int) := by rw [pop_size]; omega
  have hs2 : (x : Int) % 256 < (Lib.pop8tab.size : Int) := by rw [pop_size]; omega
  have h01 : 0 ≤ (x : Int) / 256 := by omega
  have h02 : 0 ≤ (x : Int) % 256 := by omega
  have hx1 : x / 256 < Lib.pop8tab.size := by rw [pop_size]; omega
  have hx2 : x % 256 < Lib.pop8tab.size := by rw [pop_size]; omega
  have HT1 := Lib.hid (show (Lib.pop8tab[x / 256]'hx1).toNat = Lib.onesCount (x / 256) from pop_tab ⟨x / 256, by omega⟩)
  have HT2 := Lib.hid (show (Lib.pop8tab[x % 256]'hx2).toNat = Lib.onesCount (x % 256) from pop_tab ⟨x % 256, by omega⟩)
  have HL1 := Lib.hid (show Lib.onesCount (x / 256) ≤ 8 from t_pop ⟨x / 256, by omega⟩)
  have HL2 := Lib.hid (show Lib.onesCount (x % 256) ≤ 8 from t_pop ⟨x % 256, by omega⟩)
  go_enter Try.func44, Try.ntmps44
  go_wp2
  go_region
  go_wp2
  go_ret
  refine ⟨congrArg Ending.returned (congrArg (Value.int IntKind.i64) ?_), (Below.refl _ _).drew⟩
  have h1 := HL1.out
  have h2 := HL2.out
  have e2 : Lib.pop8 ((x : Int) % 256) = (Lib.onesCount (x % 256) : Int) := Lib.pop8_eq ⟨x % 256, by omega⟩
  rw [HT1.out, e2]
  unfold pop16
  omega
theorem spansOf_any {a : Option Addr} {n c : Nat} {l : List Int} {w : World} (h : Nums .i64 w a n l) :
    Calls Try.prog 21 #[.slice a n c] w (Told (.int .i64 (spans l : Int)) w) := by
  have H := Lib.hid (versionsOf_any (c := c) h)
  have HF := Lib.hid (t_first ⟨_, word_lt l⟩)
  have HS := Lib.hid (spans_bits l)
  have HK := word_lt l
  obtain ⟨k, hk⟩ : ∃ k : Nat, word l = k := ⟨_, rfl⟩
  dsimp only at HF
  rw [hk] at H HF HS HK
  clear h hk
  have hf := HF.out.1
  have hf2 : bits .andNot .u16 (k : Int) ((k : Int) * 2) = ((firstBits k : Nat) : Int) := by
    rw [← hf]
    congr 1
    omega
  obtain ⟨q, hq⟩ : ∃ q : Nat, firstBits k = q := ⟨_, rfl⟩
  have HL := Lib.hid HF.out.2
  rw [hq] at HL HS hf hf2
  clear hq HF
  go_enter Try.func21, Try.ntmps21
  go_wp2_with fail
  refine H.out.mono ?_
  rintro e w' ⟨rfl, rfl⟩
  go_wp2_with fail
  refine (onesCount16_any q HL.out _).mono ?_
  rintro e w' ⟨rfl, hb⟩
  go_wp2_with fail
  go_ret
  exact ⟨by rw [HS.out]; rfl, hb⟩
end Go.Proofs.Ytejnghnmmeiioaa
