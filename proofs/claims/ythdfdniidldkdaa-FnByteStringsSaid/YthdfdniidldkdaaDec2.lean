/- The model's reading of a list of numbers. -/
import Derived.Test.YthdfdniidldkdaaDec
namespace Go.Proofs.Ythdfdniidldkdaa
open Go.ChangeShapes Go.WideShapes Go.ChangeAt Go.RowKit
set_option linter.unusedVariables false

theorem decodeInts_case {r : Option (List Int × Int)} {a : Option Addr} {n c : Nat} {off cnt : Int} {l : List Int} (hr : decs l off cnt = r) {w : World} (h : Nums .u8 w a n l) (hB : Bs l) (hc : n ≤ c ∧ (c : Int) ≤ 9223372036854775807) :
    Calls Try.prog 23 #[.slice a n c, .int .i64 off, .int .i64 cnt] w (IntsAs r w) := by
  rw [← hr]; exact decodeInts_any a n c off cnt l w h hB hc
theorem decs_len {l : List Int} {off cnt : Int} {p : List Int × Int} (h : decs l off cnt = some p) : p.1.length ≤ 100 := by
  unfold decs at h
  split at h
  · obtain ⟨zs, o⟩ := p
    have := decK_len h
    show zs.length ≤ 100
    omega
  · cases h
end Go.Proofs.Ythdfdniidldkdaa
