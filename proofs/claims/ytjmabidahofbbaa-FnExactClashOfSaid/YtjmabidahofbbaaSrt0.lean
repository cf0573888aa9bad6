/- Elements exchanged, by the library's own text. -/
import Derived.Test.YtjmabidahofbbaaEnt
import Derived.Test.YtjmabidahofbbaaStb
import Derived.Shelf.SlSortCmp.KitK
namespace Go.Proofs.Ytjmabidahofbbaa
open Go.Shelf Go.RowKit Go.Lib Go.Sort
set_option linter.unusedVariables false

/-- The cells of one element, in a world of the sort's. -/
theorem swk_cells {w0 W : World} {blk off : Nat} {dk d0 : Array En} (h : SWK En.enc 3 w0 blk off dk W) (R : RowK En.enc 3 w0 blk off d0) (hs : dk.size = d0.size) (i : Nat) (hi : i < dk.size) :
    (W.cell? ⟨blk, off + i * 3, none⟩ = some (.int .i64 dk[i]!.tag) ∧ W.cell? ⟨blk, off + i * 3 + 1, none⟩ = some (.int .i64 dk[i]!.vend) ∧ W.cell? ⟨blk, off + i * 3 + 2, none⟩ = some (.bool dk[i]!.old)) ∧
    W.frozen? ⟨blk, off + i * 3, none⟩ = false ∧ W.frozen? ⟨blk, off + i * 3 + 1, none⟩ = false ∧ W.frozen? ⟨blk, off + i * 3 + 2, none⟩ = false := by
  have hh := h.holds R.hblk R.hH hs
  have h0 := HoldsK.cell hh hi (show 0 < 3 by omega)
  have h1 := HoldsK.cell hh hi (show 1 < 3 by omega)
  have h2 := HoldsK.cell hh hi (show 2 < 3 by omega)
  exact ⟨⟨h0.1, h1.1, h2.1⟩, h0.2, h1.2, h2.2⟩

theorem put_pair (w : World) (blk A B : Nat) (x y : En) : (w.drew.setCells blk A x.enc).setCells blk B y.enc =
    ((((((w.setCell ⟨blk, A, none⟩ (.int .i64 x.tag)).setCell ⟨blk, A + 1, none⟩ (.int .i64 x.vend)).setCell ⟨blk, A + 2, none⟩ (.bool x.old)).setCell ⟨blk, B, none⟩ (.int .i64 y.tag)).setCell ⟨blk, B + 1, none⟩ (.int .i64 y.vend)).setCell ⟨blk, B + 2, none⟩ (.bool y.old)).drew := by
  have e : ∀ (w : World) (a : Addr) (v : Value), w.drew.setCell a v = (w.setCell a v).drew := fun _ _ _ => rfl
  simp only [En.enc, World.setCells, e, Nat.add_assoc]

set_option maxHeartbeats 1000000 in
set_option maxRecDepth 100000 in
theorem swapRange_any (blk off cap a b n : Nat) (d0 d : Array En) (w0 w : World) (fv : Value) (hs : d0.size = d.size) (R : RowK En.enc 3 w0 blk off d0) (S : SWK En.enc 3 w0 blk off d w) (hab : a + n ≤ b) (hb : b + n ≤ d.size) (hsz : d.size < 4611686018427387904) :
    Calls Try.prog 118 #[.slice (some ⟨blk, off, none⟩) d.size cap, .int .i64 a, .int .i64 b, .int .i64 n, fv] w fun e w' =>
      e = .returned (.tuple #[]) ∧ ∃ d', SwR a b n d d' ∧ SWK En.enc 3 w0 blk off d' w' := by
  have S0 : Aside _ := S
  have HR : Aside _ := R
  clear S R
  go_enter Try.func118, Try.ntmps118
  go_wp2
  go_loopg [10] n (fun g1 vi wr => ∃ (i : Nat) (dk : Array En), vi = .int .i64 i ∧ i ≤ n ∧ n - i ≤ g1 ∧ dk.size = d.size ∧ Aside (SWK En.enc 3 w0 blk off dk wr) ∧ Hid (SwR a b i d dk))
  case atStart => exact ⟨0, d, rfl, by omega, by omega, rfl, S0, SwR.zero⟩
  case round =>
    clear S0
    obtain ⟨i, dk, rfl, hin, hg1, hds, S1, HS⟩ := hrel
    by_cases hlt : i < n
    · have hltz : (i : Int) < (n : Int) := by omega
      go_wp2_with fail
      have ea : ((a : Int) + (i : Int)).toNat = a + i := by omega
      have pa : (0 : Int) ≤ (a : Int) + (i : Int) := by omega
      have ba : (a : Int) + (i : Int) < (d.size : Int) := by omega
      have ra : IntKind.i64.wrap ((a : Int) + (i : Int)) = (a : Int) + (i : Int) := by rw [IntKind.wrap_i64]; omega
      have eb : ((b : Int) + (i : Int)).toNat = b + i := by omega
      have pb : (0 : Int) ≤ (b : Int) + (i : Int) := by omega
      have bb : (b : Int) + (i : Int) < (d.size : Int) := by omega
      have rb : IntKind.i64.wrap ((b : Int) + (i : Int)) = (b : Int) + (i : Int) := by rw [IntKind.wrap_i64]; omega
      have S2 : Aside (SWK En.enc 3 w0 blk off (swp dk (a + i) (b + i)) ((wr.drew.setCells blk (off + (a + i) * 3) (En.enc dk[b + i]!)).setCells blk (off + (b + i) * 3) (En.enc dk[a + i]!))) := S1.out.swapped HR.out (a + i) (b + i) (by omega) (by omega)
      obtain ⟨⟨c0, c1, c2⟩, z0, z1, z2⟩ := swk_cells S1.out HR.out (by omega) (a + i) (by omega)
      obtain ⟨⟨e0, e1, e2⟩, y0, y1, y2⟩ := swk_cells S1.out HR.out (by omega) (b + i) (by omega)
      clear S1
      generalize dk[a + i]! = xa at S2 c0 c1 c2
      generalize dk[b + i]! = xb at S2 e0 e1 e2
      have n0 : off + (b + i) * 3 ≠ off + (a + i) * 3 := by omega
      have n1 : off + (b + i) * 3 ≠ off + (a + i) * 3 + 1 := by omega
      have n2 : off + (b + i) * 3 ≠ off + (a + i) * 3 + 2 := by omega
      have n3 : off + (b + i) * 3 + 1 ≠ off + (a + i) * 3 := by omega
      have n4 : off + (b + i) * 3 + 1 ≠ off + (a + i) * 3 + 2 := by omega
      have n5 : off + (b + i) * 3 + 2 ≠ off + (a + i) * 3 := by omega
      have n6 : off + (b + i) * 3 + 2 ≠ off + (a + i) * 3 + 1 := by omega
      have n7 : off + (b + i) * 3 + 1 ≠ off + (a + i) * 3 + 1 := by omega
      have n8 : off + (b + i) * 3 + 2 ≠ off + (a + i) * 3 + 2 := by omega
      obtain ⟨A, hA⟩ : ∃ A, off + (a + i) * 3 = A := ⟨_, rfl⟩
      obtain ⟨B, hB⟩ : ∃ B, off + (b + i) * 3 = B := ⟨_, rfl⟩
      rw [hA] at S2 c0 c1 c2 z0 z1 z2 n0 n1 n2 n3 n4 n5 n6 n7 n8
      rw [hB] at S2 e0 e1 e2 y0 y1 y2 n0 n1 n2 n3 n4 n5 n6 n7 n8
      rw [put_pair] at S2
      go_big_region
      all_goals go_wp2
      go_roundg (n - (i + 1))
      case measure => omega
      case rel =>
        exact ⟨i + 1, swp dk (a + i) (b + i), by go_num, by omega, by omega, by rw [size_swp]; exact hds, S2, HS.out.step hlt hab hb⟩
    · have hltz : ¬ (i : Int) < (n : Int) := by omega
      go_wp2
      go_end0
      have e : i = n := by omega
      subst e
      exact ⟨rfl, dk, HS.out, S1.out⟩
end Go.Proofs.Ytjmabidahofbbaa
