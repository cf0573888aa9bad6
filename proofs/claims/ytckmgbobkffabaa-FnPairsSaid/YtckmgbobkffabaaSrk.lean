/- The messages of a map of where they lead to, in ascending order: by the program (maps.Keys and slices.Sorted, by the shelf's contracts). -/
import Derived.Test.YtckmgbobkffabaaNxu
import Derived.Test.YtckmgbobkffabaaFg
import Derived.Test.YtckmgbobkffabaaShelf
import Derived.Lib.SlKeysI
namespace Go.Proofs.Ytckmgbobkffabaa
open Go.ChangeShapes Go.WideShapes Go.ChangeAt Go.RowKit Go.Maps Go.Sort Go.Shelf
set_option linter.unusedVariables false
set_option linter.unusedSimpArgs false

theorem asc_nodup {l : List Int} (h : Asc l) : l.Nodup := List.Pairwise.imp (fun h e => by omega) h
theorem keyedI : Maps.Keyed Try.prog 3 := Maps.int_keyed Try.underlying3
theorem from_perm {x : Mac} {s : Int} {b : Bool} {w : World} {g n : Nat} {R : Value → Option (DataW Unit × List MemPlace)} (h : w.ownsMap Try.prog 3 R g n (nx s b x.moves)) : (movesFrom x s b).Perm (intKeys (nx s b x.moves)) := by
  refine CollectedI.perm (left := fun _ => false) ⟨asc_nodup (movesFrom_asc x s b), fun k => ?_⟩ h keyedI Try.underlying3 fun _ => rfl
  rw [nx_has]
  constructor
  · intro hk
    obtain ⟨t, ht⟩ := sent_to hk
    exact ⟨by rw [ht]; rfl, rfl⟩
  · rintro ⟨hk, _⟩
    obtain ⟨t, ht⟩ := Option.isSome_iff_exists.1 hk
    exact toOf_from ht
theorem sorted_asc {l : List Int} (h : Asc l) : l.mergeSort leI = l :=
  List.mergeSort_of_pairwise (List.Pairwise.imp (fun h => by simp only [leI, decide_eq_true_eq]; omega) h)
theorem nx_tidy (s : Int) (b : Bool) : ∀ l : List Mv, Tidy (nx s b l)
  | [] => tidy_empty
  | x :: t => by
    unfold nx
    split
    · exact (nx_tidy s b t).put (by simp [WideAt.IsKeyLit]) _
    · exact nx_tidy s b t
theorem nx_size (s : Int) (b : Bool) : ∀ l : List Mv, Maps.size (nx s b l) ≤ l.length
  | [] => by simp [nx, Maps.size]
  | x :: t => by
    have ih := nx_size s b t
    unfold nx
    split
    · rw [Maps.size_put (nx_tidy s b t)]
      simp only [List.length_cons]
      split <;> omega
    · simp only [List.length_cons]
      omega

/-- slices.Sort's two contracts, at the fence that asks nothing. -/
theorem sortsI (m : Nat) : AnyZI.SortsIn Try.prog Try.msorted_ren Fence.wide m :=
  ⟨fun blk off cap ss W hH hblk hsz => callsIn_wide.2 (AnyM.slices_Sort_int Try.msort blk off cap ss W hH hblk hsz),
   fun p cap W => callsIn_wide.2 (AnyM.slices_Sort_int_none Try.msort p cap W)⟩
theorem mapsKeys_any (mb : Option Nat) (W : World) : Calls Try.prog 112 #[.map mb] W fun e w' => e = .returned (.func (.func 121) #[] #[.pointer (some ⟨W.heap.size, 0, none⟩)]) ∧ w' = W.alloc (.cells #[.map mb] 107) :=
  (callsIn_wide (n := 5)).1 (AnyZI.keys_in Try.mkeys Fence.wide 5 trivial rfl mb W)
set_option maxHeartbeats 1000000 in
theorem sortedKeys_any {x : Mac} (s : Int) (b : Bool) (g n : Nat) (w : World) (hown : w.ownsMap Try.prog 3 (plainElem (H := Unit) Try.prog 3) g n (nx s b x.moves)) (hn : x.moves.length ≤ 100000000) :
    Calls Try.prog 111 #[.func (.func 121) #[] #[.pointer (some ⟨w.heap.size, 0, none⟩)]] (w.alloc (.cells #[.map (some g)] 107)) (Made .i64 3 (w.heap.size + 1) (movesFrom x s b) (w.alloc (.cells #[.map (some g)] 107))) := by
  have hsz := nx_size s b x.moves
  have hbl := hown.lt
  have hp := from_perm hown
  have hseq : SeqGives Fence.wide 2 Try.prog 121 #[.pointer (some ⟨w.heap.size, 0, none⟩)] encZ (fun ss => ss.Perm (intKeys (nx s b x.moves))) (Maps.size (nx s b x.moves)) (w.alloc (.cells #[.map (some g)] 107)) :=
    AnyZI.keys_gives (ρ := Try.mkeys_ren) { Try.mkeys with } Fence.wide _ trivial rfl (by omega) w.heap.size g n (nx s b x.moves) _ (by simp) (by simp) (by
      obtain ⟨es, clock, hb, Ft, hs, hD⟩ := hown
      exact ⟨es, clock, (Below.heap_alloc _ _ g hbl).trans hb, Ft, hs, hD⟩)
  have cS := AnyZI.sorted_in Try.msorted Fence.wide 5 trivial trivial trivial trivial rfl (by omega) (sortsI _) (enters_of Try.func118 (by kernel_rfl) rfl) 121 #[.pointer (some ⟨w.heap.size, 0, none⟩)] trivial (enters_of Try.func121 (by kernel_rfl) rfl) _ _ (by unfold maxLen; omega) (by omega) _ hseq
  refine ((callsIn_wide (n := 5)).1 cS).mono ?_
  rintro e w' ⟨v, ss, rfl, hS, hrow, hnil, hb⟩
  have hss : ss.mergeSort leI = movesFrom x s b := by
    rw [mergeSort_of_perm_i (hS.trans hp.symm), sorted_asc (movesFrom_asc x s b)]
  rw [show (ss.mergeSort fun x y => decide (x ≤ y)) = movesFrom x s b from hss] at hrow
  have hlen : (movesFrom x s b).length = ss.length := by rw [← hss, List.length_mergeSort]
  have hsz1 : (w.alloc (.cells #[.map (some g)] 107)).heap.size = w.heap.size + 1 := by simp
  rw [hsz1] at hrow hb
  obtain ⟨a, c, rfl⟩ : ∃ a c, v = .slice a ss.length c := by
    rcases hrow.2 with ⟨e, h0⟩ | ⟨g', cap, cur, e, _⟩
    · refine ⟨none, 0, ?_⟩
      rw [e, h0]
    · exact ⟨_, _, e⟩
  exact ⟨a, ss.length, c, rfl, ⟨hlen, hrow⟩, hb⟩
end Go.Proofs.Ytckmgbobkffabaa
