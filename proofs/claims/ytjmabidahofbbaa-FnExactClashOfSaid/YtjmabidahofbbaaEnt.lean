/- Entries: a tag, a vendor, and whether the entry is retired; their three cells. No function of the program is spoken of. -/
import Derived.Test.YtjmabidahofbbaaItems
namespace Go.Proofs.Ytjmabidahofbbaa
open Go.ChangeShapes Go.WideShapes Go.ChangeAt Go.RowKit
set_option linter.unusedVariables false

structure En where
  tag : Int
  vend : Int
  old : Bool
instance : Inhabited En := ⟨⟨0, 0, false⟩⟩
def En.enc (x : En) : List Value := [.int .i64 x.tag, .int .i64 x.vend, .bool x.old]
def En.val (x : En) : Value := .agg #[.int .i64 x.tag, .int .i64 x.vend, .bool x.old]
theorem En.enc_len (x : En) : x.enc.length = 3 := rfl
theorem En.cells (x : En) : ∀ u ∈ x.enc, u.oneCell' = true := by
  intro u hu
  simp only [En.enc, List.mem_cons, List.not_mem_nil, or_false] at hu
  rcases hu with rfl | rfl | rfl <;> rfl
abbrev Ens := Items En.enc 3
abbrev OwnN := OwnI En.enc 3
theorem ens_at {w : World} {a : Option Addr} {n : Nat} {l : List En} (h : Ens w a n l) {j : Nat} (hj : j < n) : ∃ b o x, a = some ⟨b, o, none⟩ ∧ l[j]? = some x ∧
    w.cell? ⟨b, o + j * 3, none⟩ = some (.int .i64 x.tag) ∧ w.cell? ⟨b, o + j * 3 + 1, none⟩ = some (.int .i64 x.vend) ∧ w.cell? ⟨b, o + j * 3 + 2, none⟩ = some (.bool x.old) := by
  obtain ⟨b, o, x, e, hl, hx⟩ := h.at_ hj
  exact ⟨b, o, x, e, hl, hx 0 _ rfl, hx 1 _ rfl, hx 2 _ rfl⟩
end Go.Proofs.Ytjmabidahofbbaa
