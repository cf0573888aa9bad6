/- The messages of a map of where they lead to, in ascending order: by the program (maps.Keys and slices.Sorted, by the shelf's contracts). The deliveries of one machine to another one, each handed to a method of the list that gathers the pairs: by the program. -/
import Derived.Test.YtckmgbobkffabaaG15
import Derived.Test.YtckmgbobkffabaaG17
import Derived.Test.YtckmgbobkffabaaShelf
import Derived.Lib.SlKeysI
import Derived.Test.YtckmgbobkffabaaG19
import Derived.Test.YtckmgbobkffabaaG1
namespace Go.Proofs.Ytckmgbobkffabaa
open Go.ChangeShapes Go.WideShapes Go.ChangeAt Go.RowKit Go.Maps Go.Sort Go.Shelf
set_option linter.unusedVariables false
set_option linter.unusedSimpArgs false

theorem asc_nodup {l : List Int} (h : Asc l) : l.Nodup := List.Pairwise.imp (fun h e => by omega) h
theorem keyedI : Maps.Keyed Try.prog 3 := Maps.int_keyed Try.underlying3
theorem from_perm {x : Mac} {s : Int} {b : Bool} {w : World} {g n : Nat} {R : Value → Option (DataW Unit × List MemPlace)} (h : w.ownsMap Try.prog 3 R g n (nx s b x.moves)) : (movesFrom x s b).Perm (intKeys (nx s b x.moves)) := by
 refine CollectedI.perm (left := fun _ => false) ⟨asc_nodup (movesFrom_asc x s b), fun k => ?_⟩ h keyedI Try.underlying3 fun _ => rfl
 rw [nx_has]
 constructor
 ·intro hk
  obtain ⟨t, ht⟩ := sent_to hk
  exact ⟨by rw [ht]; rfl, rfl⟩
 ·rintro ⟨hk, _⟩
  obtain ⟨t, ht⟩ := Option.isSome_iff_exists.1 hk
  exact toOf_from ht
theorem sorted_asc {l : List Int} (h : Asc l) : l.mergeSort leI = l :=
 List.mergeSort_of_pairwise (List.Pairwise.imp (fun h => by simp only [leI, decide_eq_true_eq]; omega) h)
theorem nx_tidy (s : Int) (b : Bool) : ∀ l : List Mv, Tidy (nx s b l)
 | [] => tidy_empty
 | x :: t => by
  unfold nx
  split
  ·exact (nx_tidy s b t).put (by simp [WideAt.IsKeyLit]) _
  ·exact nx_tidy s b t
theorem nx_size (s : Int) (b : Bool) : ∀ l : List Mv, Maps.size (nx s b l) ≤ l.length
 | [] => by simp [nx, Maps.size]
 | x :: t => by
  have ih := nx_size s b t
  unfold nx
  split
  ·rw [Maps.size_put (nx_tidy s b t)]
   simp only [List.length_cons]
   split <;> omega
  ·simp only [List.length_cons]
   omega

/-- slices.Sort's two contracts, at the fence that asks nothing. -/
theorem sortsI (m : Nat) : AnyZI.SortsIn Try.prog Try.msorted_ren Fence.wide m :=
 ⟨fun blk off cap ss W hH hblk hsz => callsIn_wide.2 (AnyM.slices_Sort_int Try.msort blk off cap ss W hH hblk hsz),
  fun p cap W => callsIn_wide.2 (AnyM.slices_Sort_int_none Try.msort p cap W)⟩
theorem mapsKeys_any (mb : Option Nat) (W : World) : Calls Try.prog 112 #[.map mb] W fun e w' => e = .returned (.func (.func 121) #[] #[.pointer (some ⟨W.heap.size, 0, none⟩)]) ∧ w' = W.alloc (.cells #[.map mb] 107) :=
 (callsIn_wide (n := 5)).1 (AnyZI.keys_in Try.mkeys Fence.wide 5 trivial rfl mb W)
set_option maxHeartbeats 1000000 in
theorem sortedKeys_any {x : Mac} (s : Int) (b : Bool) (g n : Nat) (w : World) (hown : w.ownsMap Try.prog 3 (plainElem (H := Unit) Try.prog 3) g n (nx s b x.moves)) (hn : x.moves.length ≤ 100000000) :
  Calls Try.prog 111 #[.func (.func 121) #[] #[.pointer (some ⟨w.heap.size, 0, none⟩)]] (w.alloc (.cells #[.map (some g)] 107)) (Made .i64 3 (w.heap.size + 1) (movesFrom x s b) (w.alloc (.cells #[.map (some g)] 107))) := by
 have hsz := nx_size s b x.moves
 have hbl := hown.lt
 have hp := from_perm hown
 have hseq : SeqGives Fence.wide 2 Try.prog 121 #[.pointer (some ⟨w.heap.size, 0, none⟩)] encZ (fun ss => ss.Perm (intKeys (nx s b x.moves))) (Maps.size (nx s b x.moves)) (w.alloc (.cells #[.map (some g)] 107)) :=
  AnyZI.keys_gives (ρ := Try.mkeys_ren) { Try.mkeys with } Fence.wide _ trivial rfl (by omega) w.heap.size g n (nx s b x.moves) _ (by simp) (by simp) (by
   obtain ⟨es, clock, hb, Ft, hs, hD⟩ := hown
   exact ⟨es, clock, (Below.heap_alloc _ _ g hbl).trans hb, Ft, hs, hD⟩)
 have cS := AnyZI.sorted_in Try.msorted Fence.wide 5 trivial trivial trivial trivial rfl (by omega) (sortsI _) (enters_of Try.func118 (by kernel_rfl) rfl) 121 #[.pointer (some ⟨w.heap.size, 0, none⟩)] trivial (enters_of Try.func121 (by kernel_rfl) rfl) _ _ (by unfold maxLen; omega) (by omega) _ hseq
 refine ((callsIn_wide (n := 5)).1 cS).mono ?_
 rintro e w' ⟨v, ss, rfl, hS, hrow, hnil, hb⟩
 have hss : ss.mergeSort leI = movesFrom x s b := by
  rw [mergeSort_of_perm_i (hS.trans hp.symm), sorted_asc (movesFrom_asc x s b)]
 rw [show (ss.mergeSort fun x y => decide (x ≤ y)) = movesFrom x s b from hss] at hrow
 have hlen : (movesFrom x s b).length = ss.length := by rw [← hss, List.length_mergeSort]
 have hsz1 : (w.alloc (.cells #[.map (some g)] 107)).heap.size = w.heap.size + 1 := by simp
 rw [hsz1] at hrow hb
 obtain ⟨a, c, rfl⟩ : ∃ a c, v = .slice a ss.length c := by
  rcases hrow.2 with ⟨e, h0⟩ | ⟨g', cap, cur, e, _⟩
  ·refine ⟨none, 0, ?_⟩
   rw [e, h0]
  ·exact ⟨_, _, e⟩
 exact ⟨a, ss.length, c, rfl, ⟨hlen, hrow⟩, hb⟩
end Go.Proofs.Ytckmgbobkffabaa
namespace Go.Proofs.Ytckmgbobkffabaa
open Go.ChangeShapes Go.WideShapes Go.ChangeAt Go.RowKit
set_option linter.unusedVariables false
set_option linter.unusedSimpArgs false

theorem Nums.but {k : IntKind} {g q : Nat} {w w' : World} {a : Option Addr} {n : Nat} {l : List Int} (h : Nums k w a n l) (hb : But g q w w') (hne : ∀ ad, a = some ad → ad.block ≠ g ∧ ad.block ≠ q) : Nums k w' a n l :=
 ⟨h.len, h.fits, fun j hj => by
  obtain ⟨ad, e, hx⟩ := h.cell j hj
  have hlt := cell_in hx
  have h2 := hne ad e
  rw [addr_block] at hlt
  refine ⟨ad, e, ?_⟩
  have h3 := hb.block ad.block hlt h2.1 h2.2
  unfold World.cell? at hx ⊢
  rw [addr_block] at hx ⊢
  rw [h3]
  exact hx⟩
theorem cell_but {g q : Nat} {w w' : World} {p : Addr} {v : Value} (h : w.cell? p = some v) (hb : But g q w w') (h1 : p.block ≠ g) (h2 : p.block ≠ q) : w'.cell? p = some v := by
 have h3 := hb.block p.block (cell_in h) h1 h2
 unfold World.cell? at h ⊢
 rw [h3]
 exact h
theorem But.step {g q g5 : Nat} {w0 w w' : World} (h : But g q w0 w) (k : But g5 q w w') (hg : g5 = g ∨ w0.heap.size ≤ g5) : But g q w0 w' :=
 ⟨k.os.trans h.os, k.tape.trans h.tape, k.output.trans h.output, Nat.le_trans h.size k.size, fun j hj h1 h2 => (k.block j (Nat.lt_of_lt_of_le hj h.size) (by omega) h2).trans (h.block j hj h1 h2)⟩
theorem But.of {g q : Nat} {w w' : World} (h : Below w.heap.size w w') : But g q w w' := ⟨h.os, h.tape, h.output, h.size, fun k hk _ _ => h.block k hk⟩
theorem BoxR.same {gp : Nat} {rs : List Nat} {w w' : World} {B g n c : Nat} {l : List (Int × Int)} (h : BoxR gp rs w B g n c l) (hb : Below w.heap.size w w') : BoxR gp rs w' B g n c l :=
 ⟨(hb.block gp (Array.getElem?_eq_some_iff.1 h.box).1).trans h.box, (h.rows.same hb).upper hb.size (Nat.le_refl _), h.ne, h.nin, h.lo⟩
theorem nx_look {t : Int} {b : Bool} {zs : List Mv} {k r : Int} (h : toOf zs t b k = some r) {cc : Int} (hc : (nx t b zs).atKey (.int .i64 k) (.lit (.int .i64 0)) = .lit (.int .i64 cc)) : cc = r := by
 rw [nx_at, h] at hc
 injection hc with hc
 injection hc with _ hc
 exact hc.symm
set_option maxHeartbeats 2000000 in
set_option maxRecDepth 100000 in
theorem sharedAdd_any {x y : Mac} (s t : Int) (b c : Bool) {gp : Nat} {rs : List Nat} {w : World} {B g n0 c0 g1 g2 n1 n2 : Nat} {l : List (Int × Int)} (hz : ∀ z ∈ x.moves, Wmv z) (hn : x.moves.length ≤ 100000000)
  (hm1 : w.ownsMap Try.prog 3 (plainElem (H := Unit) Try.prog 3) g1 n1 (nx s b x.moves)) (hm2 : w.ownsMap Try.prog 3 (plainElem (H := Unit) Try.prog 3) g2 n2 (nx t c y.moves))
  (hbx : BoxR gp rs w B g n0 c0 l) (hn0 : n0 ≤ 100000000) (hd1 : g1 ≠ g ∧ g1 ≠ gp) (hd2 : g2 ≠ g ∧ g2 ≠ gp) :
  Calls Try.prog 97 #[.map (some g1), .map (some g2), .func (.func 63) #[.pointer (some ⟨gp, 0, none⟩)] #[]] w fun e w' => e = .returned (.tuple #[]) ∧ ∃ rs' g' n' c', BoxR gp rs' w' B g' n' c' (l ++ (sharedP x s b y t c)) ∧ But g gp w w' ∧ n' ≤ n0 + x.moves.length ∧ (g' = g ∨ w.heap.size ≤ g') := by
 have hg1s := hm1.lt
 have hg2s := hm2.lt
 have hgp : gp < w.heap.size := (Array.getElem?_eq_some_iff.1 hbx.box).1
 have hg0 : g < w.heap.size := hbx.rows.hi
 have hlo0 := hbx.rows.lo
 have hlo1 := hbx.lo
 have HM1 := Lib.hid hm1
 have HM2 := Lib.hid hm2
 have HBX := Lib.hid hbx
 have HZ := Lib.hid hz
 have hlm := movesFrom_len x s b
 clear hm1 hm2 hbx hz
 go_enter Try.func97, Try.ntmps97
 go_wp2_with fail
 refine (mapsKeys_any _ _).mono ?_
 rintro e w1 ⟨rfl, rfl⟩
 go_wp2_with fail
 refine (sortedKeys_any (x := x) s b g1 n1 w HM1.out hn).mono ?_
 rintro e w4 ⟨a4, n4, c4, rfl, ho4, hb4⟩
 have HBA := Lib.hid (alloc_same w (.cells #[.map (some g1)] 107))
 have hsA : (w.alloc (.cells #[.map (some g1)] 107)).heap.size = w.heap.size + 1 := by simp
 have HB4 : Hid (Below w.heap.size w w4) := Lib.hid (HBA.out.trans (hb4.mono (by omega)))
 have hsz4 := HB4.out.size
 have hn4 := ho4.len
 have hroom4 := ho4.room
 have HM14 := Lib.hid (HM1.out.kept (grown_below HB4.out none) (by simp))
 have HM24 := Lib.hid (HM2.out.kept (grown_below HB4.out none) (by simp))
 have HN4 := Lib.hid ho4.nums
 have HSP := Lib.hid ho4.span
 have HBX4 := Lib.hid (HBX.out.same HB4.out)
 clear ho4 hb4 HM1 HM2 HBX HBA hsA
 generalize hH : w4.heap.size = H at *
 go_wp2_with fail
 go_loopw [14] (fun i wr => ∃ (rs1 : List Nat) (j g5 n5 c5 : Nat), j ≤ n4 ∧ i = .int .i64 j ∧ BoxR gp rs1 wr B g5 n5 c5 (l ++ (((movesFrom x s b).take j).filterMap (bothG x s b y t c))) ∧ n5 ≤ n0 + j ∧ (g5 = g ∨ H ≤ g5) ∧ wr.ownsMap Try.prog 3 (plainElem (H := Unit) Try.prog 3) g1 n1 (nx s b x.moves) ∧ wr.ownsMap Try.prog 3 (plainElem (H := Unit) Try.prog 3) g2 n2 (nx t c y.moves) ∧ Nums .i64 wr a4 n4 (movesFrom x s b) ∧ But g gp w wr ∧ H ≤ wr.heap.size) (fun i _ => n4 - (intOf i).toNat)
 case atStart => exact ⟨rs, 0, g, n0, c0, Nat.zero_le _, rfl, by simpa using HBX4.out, by omega, Or.inl rfl, HM14.out, HM24.out, HN4.out, But.of HB4.out, by omega⟩
 case round =>
  obtain ⟨rs1, j, g5, n5, c5, hj, rfl, hbx, hn5, hg5, hm1, hm2, hnu, hb, hHr⟩ := hrel
  have HBX := Lib.hid hbx
  have HM1 := Lib.hid hm1
  have HM2 := Lib.hid hm2
  have HN := Lib.hid hnu
  have HB := Lib.hid hb
  clear hbx hm1 hm2 hnu hb
  by_cases hlt : j < n4
  ·obtain ⟨ad, k, e4, hk, hc⟩ := HN.out.at_ hlt
   have hkm := List.mem_of_getElem? hk
   have hwf := movesFrom_wf HZ.out hkm
   have hkey := Maps.keyOf_int_mk Try.underlying3 hwf
   obtain ⟨q, hq⟩ := sent_to hkm
   have HSP2 := Lib.hid HSP.out
   subst e4
   cases hr : toOf y.moves t c k with
   | none =>
    have HE : Hid (((movesFrom x s b).take (j + 1)).filterMap (bothG x s b y t c) = ((movesFrom x s b).take j).filterMap (bothG x s b y t c)) := Lib.hid (by
     rw [List.take_add_one, hk, List.filterMap_append]
     simp [bothG_none hr])
    have HH := Lib.hid (nx_has t c k y.moves)
    rw [hr] at HH
    clear hr hq hk hkm hwf
    go_wp2_with (at_lookup; refine wpList_lookup_own_ok_int _ rfl _ _ 107 rfl 3 3 .i64 intM_keys Try.underlying107 Try.underlying3 (mapI_zero _) g2 n2 (nx t c y.moves) rfl HM2.out _ _ rfl hkey ?_; intro cc hcc _; rw [HH.out])
    go_roundw
    case rel => exact ⟨rs1, j + 1, g5, n5, c5, by omega, by go_num, by rw [HE.out]; exact HBX.out, by omega, hg5, HM1.out, HM2.out, HN.out, HB.out, hHr⟩
    case measure => simp [intOf]; omega
   | some r =>
    have HE : Hid (((movesFrom x s b).take (j + 1)).filterMap (bothG x s b y t c) = ((movesFrom x s b).take j).filterMap (bothG x s b y t c) ++ [(q, r)]) := Lib.hid (by
     rw [List.take_add_one, hk, List.filterMap_append]
     simp [bothG_some hq hr])
    have HH := Lib.hid (nx_has t c k y.moves)
    have HQ := Lib.hid hq
    have HRR := Lib.hid hr
    rw [hr] at HH
    clear hr hq hk hkm hwf
    go_wp2_with (first | (at_lookup; refine wpList_lookup_own_ok_int _ rfl _ _ 107 rfl 3 3 .i64 intM_keys Try.underlying107 Try.underlying3 (mapI_zero _) g2 n2 (nx t c y.moves) rfl HM2.out _ _ rfl hkey ?_; intro cc hcc _; rw [HH.out]; obtain rfl := nx_look HRR.out hcc; clear hcc) | (at_lookup; refine wpList_lookup_own_int _ rfl _ _ 107 rfl 3 3 .i64 intM_keys Try.underlying107 Try.underlying3 (mapI_zero _) g1 n1 (nx s b x.moves) rfl HM1.out _ _ rfl hkey ?_; intro cq hcq _; obtain rfl := nx_look HQ.out hcq; clear hcq))
    refine (add_any cq cc HBX.out (by omega)).mono ?_
    rintro e w6 ⟨rfl, g6, c6, hbx6, hbut, hg6⟩
    have HBX6 : Hid (BoxR gp (rs1 ++ [wr.heap.size]) w6 B g6 (n5 + 1) c6 (l ++ (((movesFrom x s b).take (j + 1)).filterMap (bothG x s b y t c)))) := Lib.hid (by
     rw [HE.out]
     simpa using hbx6)
    have HB6 := Lib.hid (HB.out.step hbut (by omega))
    have HM16 := Lib.hid (hbut.map HM1.out (by omega) hd1.2)
    have HM26 := Lib.hid (hbut.map HM2.out (by omega) hd2.2)
    have HN6 := Lib.hid (HN.out.but hbut (fun ad2 e2 => by have := HSP2.out ad2 e2; omega))
    have hs6 := hbut.size
    have hgg : g6 = g ∨ H ≤ g6 := by omega
    clear hbx6 hbut hc
    go_wp2_with fail
    go_roundw
    case rel => exact ⟨_, j + 1, g6, n5 + 1, c6, by omega, by go_num, HBX6.out, by omega, hgg, HM16.out, HM26.out, HN6.out, HB6.out, by omega⟩
    case measure => simp [intOf]; omega
  ·obtain rfl : j = n4 := by omega
   have h9 := HBX.out
   rw [List.take_of_length_le (by omega)] at h9
   have H9 := Lib.hid h9
   clear h9
   go_wp2_with fail
   go_end0
   exact ⟨rfl, rs1, g5, n5, c5, H9.out, HB.out, by omega, by omega⟩
set_option maxHeartbeats 2000000 in
set_option maxRecDepth 100000 in
theorem sharedTurned_any {x y : Mac} (s t : Int) (b c : Bool) {gp : Nat} {rs : List Nat} {w : World} {B g n0 c0 g1 g2 n1 n2 : Nat} {l : List (Int × Int)} (hz : ∀ z ∈ x.moves, Wmv z) (hn : x.moves.length ≤ 100000000)
  (hm1 : w.ownsMap Try.prog 3 (plainElem (H := Unit) Try.prog 3) g1 n1 (nx s b x.moves)) (hm2 : w.ownsMap Try.prog 3 (plainElem (H := Unit) Try.prog 3) g2 n2 (nx t c y.moves))
  (hbx : BoxR gp rs w B g n0 c0 l) (hn0 : n0 ≤ 100000000) (hd1 : g1 ≠ g ∧ g1 ≠ gp) (hd2 : g2 ≠ g ∧ g2 ≠ gp) :
  Calls Try.prog 97 #[.map (some g1), .map (some g2), .func (.func 64) #[.pointer (some ⟨gp, 0, none⟩)] #[]] w fun e w' => e = .returned (.tuple #[]) ∧ ∃ rs' g' n' c', BoxR gp rs' w' B g' n' c' (l ++ ((sharedP x s b y t c)).map Prod.swap) ∧ But g gp w w' ∧ n' ≤ n0 + x.moves.length ∧ (g' = g ∨ w.heap.size ≤ g') := by
 have hg1s := hm1.lt
 have hg2s := hm2.lt
 have hgp : gp < w.heap.size := (Array.getElem?_eq_some_iff.1 hbx.box).1
 have hg0 : g < w.heap.size := hbx.rows.hi
 have hlo0 := hbx.rows.lo
 have hlo1 := hbx.lo
 have HM1 := Lib.hid hm1
 have HM2 := Lib.hid hm2
 have HBX := Lib.hid hbx
 have HZ := Lib.hid hz
 have hlm := movesFrom_len x s b
 clear hm1 hm2 hbx hz
 go_enter Try.func97, Try.ntmps97
 go_wp2_with fail
 refine (mapsKeys_any _ _).mono ?_
 rintro e w1 ⟨rfl, rfl⟩
 go_wp2_with fail
 refine (sortedKeys_any (x := x) s b g1 n1 w HM1.out hn).mono ?_
 rintro e w4 ⟨a4, n4, c4, rfl, ho4, hb4⟩
 have HBA := Lib.hid (alloc_same w (.cells #[.map (some g1)] 107))
 have hsA : (w.alloc (.cells #[.map (some g1)] 107)).heap.size = w.heap.size + 1 := by simp
 have HB4 : Hid (Below w.heap.size w w4) := Lib.hid (HBA.out.trans (hb4.mono (by omega)))
 have hsz4 := HB4.out.size
 have hn4 := ho4.len
 have hroom4 := ho4.room
 have HM14 := Lib.hid (HM1.out.kept (grown_below HB4.out none) (by simp))
 have HM24 := Lib.hid (HM2.out.kept (grown_below HB4.out none) (by simp))
 have HN4 := Lib.hid ho4.nums
 have HSP := Lib.hid ho4.span
 have HBX4 := Lib.hid (HBX.out.same HB4.out)
 clear ho4 hb4 HM1 HM2 HBX HBA hsA
 generalize hH : w4.heap.size = H at *
 go_wp2_with fail
 go_loopw [14] (fun i wr => ∃ (rs1 : List Nat) (j g5 n5 c5 : Nat), j ≤ n4 ∧ i = .int .i64 j ∧ BoxR gp rs1 wr B g5 n5 c5 (l ++ ((((movesFrom x s b).take j).filterMap (bothG x s b y t c))).map Prod.swap) ∧ n5 ≤ n0 + j ∧ (g5 = g ∨ H ≤ g5) ∧ wr.ownsMap Try.prog 3 (plainElem (H := Unit) Try.prog 3) g1 n1 (nx s b x.moves) ∧ wr.ownsMap Try.prog 3 (plainElem (H := Unit) Try.prog 3) g2 n2 (nx t c y.moves) ∧ Nums .i64 wr a4 n4 (movesFrom x s b) ∧ But g gp w wr ∧ H ≤ wr.heap.size) (fun i _ => n4 - (intOf i).toNat)
 case atStart => exact ⟨rs, 0, g, n0, c0, Nat.zero_le _, rfl, by simpa using HBX4.out, by omega, Or.inl rfl, HM14.out, HM24.out, HN4.out, But.of HB4.out, by omega⟩
 case round =>
  obtain ⟨rs1, j, g5, n5, c5, hj, rfl, hbx, hn5, hg5, hm1, hm2, hnu, hb, hHr⟩ := hrel
  have HBX := Lib.hid hbx
  have HM1 := Lib.hid hm1
  have HM2 := Lib.hid hm2
  have HN := Lib.hid hnu
  have HB := Lib.hid hb
  clear hbx hm1 hm2 hnu hb
  by_cases hlt : j < n4
  ·obtain ⟨ad, k, e4, hk, hc⟩ := HN.out.at_ hlt
   have hkm := List.mem_of_getElem? hk
   have hwf := movesFrom_wf HZ.out hkm
   have hkey := Maps.keyOf_int_mk Try.underlying3 hwf
   obtain ⟨q, hq⟩ := sent_to hkm
   have HSP2 := Lib.hid HSP.out
   subst e4
   cases hr : toOf y.moves t c k with
   | none =>
    have HE : Hid (((movesFrom x s b).take (j + 1)).filterMap (bothG x s b y t c) = ((movesFrom x s b).take j).filterMap (bothG x s b y t c)) := Lib.hid (by
     rw [List.take_add_one, hk, List.filterMap_append]
     simp [bothG_none hr])
    have HH := Lib.hid (nx_has t c k y.moves)
    rw [hr] at HH
    clear hr hq hk hkm hwf
    go_wp2_with (at_lookup; refine wpList_lookup_own_ok_int _ rfl _ _ 107 rfl 3 3 .i64 intM_keys Try.underlying107 Try.underlying3 (mapI_zero _) g2 n2 (nx t c y.moves) rfl HM2.out _ _ rfl hkey ?_; intro cc hcc _; rw [HH.out])
    go_roundw
    case rel => exact ⟨rs1, j + 1, g5, n5, c5, by omega, by go_num, by rw [HE.out]; exact HBX.out, by omega, hg5, HM1.out, HM2.out, HN.out, HB.out, hHr⟩
    case measure => simp [intOf]; omega
   | some r =>
    have HE : Hid (((movesFrom x s b).take (j + 1)).filterMap (bothG x s b y t c) = ((movesFrom x s b).take j).filterMap (bothG x s b y t c) ++ [(q, r)]) := Lib.hid (by
     rw [List.take_add_one, hk, List.filterMap_append]
     simp [bothG_some hq hr])
    have HH := Lib.hid (nx_has t c k y.moves)
    have HQ := Lib.hid hq
    have HRR := Lib.hid hr
    rw [hr] at HH
    clear hr hq hk hkm hwf
    go_wp2_with (first | (at_lookup; refine wpList_lookup_own_ok_int _ rfl _ _ 107 rfl 3 3 .i64 intM_keys Try.underlying107 Try.underlying3 (mapI_zero _) g2 n2 (nx t c y.moves) rfl HM2.out _ _ rfl hkey ?_; intro cc hcc _; rw [HH.out]; obtain rfl := nx_look HRR.out hcc; clear hcc) | (at_lookup; refine wpList_lookup_own_int _ rfl _ _ 107 rfl 3 3 .i64 intM_keys Try.underlying107 Try.underlying3 (mapI_zero _) g1 n1 (nx s b x.moves) rfl HM1.out _ _ rfl hkey ?_; intro cq hcq _; obtain rfl := nx_look HQ.out hcq; clear hcq))
    refine (addTurned_any cq cc HBX.out (by omega)).mono ?_
    rintro e w6 ⟨rfl, g6, c6, hbx6, hbut, hg6⟩
    have HBX6 : Hid (BoxR gp (rs1 ++ [wr.heap.size]) w6 B g6 (n5 + 1) c6 (l ++ ((((movesFrom x s b).take (j + 1)).filterMap (bothG x s b y t c))).map Prod.swap)) := Lib.hid (by
     rw [HE.out]
     simpa using hbx6)
    have HB6 := Lib.hid (HB.out.step hbut (by omega))
    have HM16 := Lib.hid (hbut.map HM1.out (by omega) hd1.2)
    have HM26 := Lib.hid (hbut.map HM2.out (by omega) hd2.2)
    have HN6 := Lib.hid (HN.out.but hbut (fun ad2 e2 => by have := HSP2.out ad2 e2; omega))
    have hs6 := hbut.size
    have hgg : g6 = g ∨ H ≤ g6 := by omega
    clear hbx6 hbut hc
    go_wp2_with fail
    go_roundw
    case rel => exact ⟨_, j + 1, g6, n5 + 1, c6, by omega, by go_num, HBX6.out, by omega, hgg, HM16.out, HM26.out, HN6.out, HB6.out, by omega⟩
    case measure => simp [intOf]; omega
  ·obtain rfl : j = n4 := by omega
   have h9 := HBX.out
   rw [List.take_of_length_le (by omega)] at h9
   have H9 := Lib.hid h9
   clear h9
   go_wp2_with fail
   go_end0
   exact ⟨rfl, rs1, g5, n5, c5, H9.out, HB.out, by omega, by omega⟩
set_option maxHeartbeats 2000000 in
set_option maxRecDepth 100000 in
theorem eachAdd_any {v v' : Value} {x y : Mac} (s t : Int) {gp : Nat} {rs : List Nat} {w : World} {B g n0 c0 : Nat} {l : List (Int × Int)} (h : MacW w v x) (h' : MacW w v' y) (hz : ∀ z ∈ x.moves, Wmv z) (hz' : ∀ z ∈ y.moves, Wmv z) (hn : x.parts ≤ 100000000) (hn' : y.parts ≤ 100000000)
  (hbx : BoxR gp rs w B g n0 c0 l) (hn0 : n0 ≤ 100000000) :
  Calls Try.prog 62 #[partyV v s, partyV v' t, .func (.func 63) #[.pointer (some ⟨gp, 0, none⟩)] #[]] w fun e w' => e = .returned (.tuple #[]) ∧ ∃ rs' g' n' c', BoxR gp rs' w' B g' n' c' (l ++ delivs x s y t) ∧ Below B w w' := by
 obtain ⟨p, np, cp, a, n, c, rfl⟩ := h.shape
 obtain ⟨p', np', cp', a', n', c', rfl⟩ := h'.shape
 obtain ⟨hB, hX, hY, hS⟩ := twice w #[.int .i64 x.st, .slice p np cp, .slice a n c, .int .i64 s] #[.int .i64 y.st, .slice p' np' cp', .slice a' n' c', .int .i64 t] 73 73
 have HB := Lib.hid hB
 have HX := Lib.hid (four_at hX)
 have HY := Lib.hid (four_at hY)
 have HBX := Lib.hid hbx
 have HNX : Hid (∀ W', Below w.heap.size w W' → Calls Try.prog 93 #[.agg #[.int .i64 x.st, .slice p np cp, .slice a n c, .int .i64 s], .bool true] W' fun e w' => ∃ g, e = .returned (.map (some g)) ∧ W'.heap.size ≤ g ∧ w'.ownsMap Try.prog 3 (plainElem (H := Unit) Try.prog 3) g x.moves.length (nx s true x.moves) ∧ Below W'.heap.size W' w') := Lib.hid fun W' hb => by
  have q := next_any s true (h.same hb) hz (by omega)
  rw [party_eq] at q
  exact q
 have HNY : Hid (∀ W', Below w.heap.size w W' → Calls Try.prog 93 #[.agg #[.int .i64 y.st, .slice p' np' cp', .slice a' n' c', .int .i64 t], .bool false] W' fun e w' => ∃ g, e = .returned (.map (some g)) ∧ W'.heap.size ≤ g ∧ w'.ownsMap Try.prog 3 (plainElem (H := Unit) Try.prog 3) g y.moves.length (nx t false y.moves) ∧ Below W'.heap.size W' w') := Lib.hid fun W' hb => by
  have q := next_any t false (h'.same hb) hz' (by omega)
  rw [party_eq] at q
  exact q
 have HZ := Lib.hid hz
 have hxp : x.moves.length ≤ 100000000 := by unfold Mac.parts at hn; omega
 clear hB hX hY hS h h' hz hz' hbx
 rw [party_eq, party_eq]
 go_enter Try.func62, Try.ntmps62
 go_wp2_with fail
 generalize ((w.alloc (.cells #[.int .i64 x.st, .slice p np cp, .slice a n c, .int .i64 s] 73)).alloc (.cells #[.int .i64 y.st, .slice p' np' cp', .slice a' n' c', .int .i64 t] 73)) = W0 at *
 have HBd : Hid (Below W0.heap.size W0 W0.drew) := Lib.hid (Below.refl _ _).drew
 refine wp_region_held_drew (S := fun w9 => w9.cell? ⟨w.heap.size, 0, none⟩ = some (.int .i64 x.st) ∧ w9.cell? ⟨w.heap.size, 1, none⟩ = some (.slice p np cp) ∧ w9.cell? ⟨w.heap.size, 2, none⟩ = some (.slice a n c) ∧ w9.cell? ⟨w.heap.size, 3, none⟩ = some (.int .i64 s) ∧ w9.cell? ⟨w.heap.size + 1, 0, none⟩ = some (.int .i64 y.st) ∧ w9.cell? ⟨w.heap.size + 1, 1, none⟩ = some (.slice p' np' cp') ∧ w9.cell? ⟨w.heap.size + 1, 2, none⟩ = some (.slice a' n' c') ∧ w9.cell? ⟨w.heap.size + 1, 3, none⟩ = some (.int .i64 t)) (by kernel_rfl) ⟨cell_stay HX.out.1 HBd.out, cell_stay HX.out.2.1 HBd.out, cell_stay HX.out.2.2.1 HBd.out, cell_stay HX.out.2.2.2 HBd.out, cell_stay HY.out.1 HBd.out, cell_stay HY.out.2.1 HBd.out, cell_stay HY.out.2.2.1 HBd.out, cell_stay HY.out.2.2.2 HBd.out⟩ (fun hHeld => ?_)
 refine wpAnyH_take (i := 0) (v := ?v1) (by simp only [get9]; rfl) (by kernel_rfl) (by kernel_rfl) (by kernel_rfl) (by exact fun _ _ _ h => h) (Or.inl ⟨by rfl, fun w9 hS9 => ?hy1⟩) hHeld ?rest1
 case hy1 =>
  dsimp only at hS9
  obtain ⟨q0, q1, q2, q3, q4, q5, q6, q7⟩ := hS9
  go_simp
  try with_reducible rfl
 try simp only [Act.put, set9]
 refine wpAnyH_take (i := 2) (v := ?v2) (by simp only [get9]; rfl) (by kernel_rfl) (by kernel_rfl) (by kernel_rfl) (by exact fun _ _ _ h => h) (Or.inl ⟨by rfl, fun w9 hS9 => ?hy2⟩) hHeld ?rest2
 case hy2 =>
  dsimp only at hS9
  obtain ⟨q0, q1, q2, q3, q4, q5, q6, q7⟩ := hS9
  go_simp
  try with_reducible rfl
 try simp only [Act.put, set9]
 refine wpAnyH_take (i := 4) (v := ?v3) (by simp only [get9]; rfl) (by kernel_rfl) (by kernel_rfl) (by kernel_rfl) (by exact fun _ _ _ h => h) (Or.inl ⟨by rfl, fun w9 hS9 => ?hy3⟩) hHeld ?rest3
 case hy3 =>
  dsimp only at hS9
  obtain ⟨q0, q1, q2, q3, q4, q5, q6, q7⟩ := hS9
  go_simp
  try with_reducible rfl
 try simp only [Act.put, set9]
 refine wpAnyH_ready (rs := [1]) (by kernel_rfl) (by simp) (AllReadyH.cons (by simp only [get9]; rfl) (fun K hK => ?_) AllReadyH.nil)
 go_simp
 refine (HNX.out _ (HB.out.trans (HBd.out.mono HB.out.size))).mono ?_
 rintro e w1 ⟨g1, rfl, hg1, hm1, hb1⟩
 have HB1 : Hid (Below W0.heap.size W0 w1) := Lib.hid (HBd.out.trans (hb1.mono HBd.out.size))
 have HM1 := Lib.hid hm1
 clear hm1
 clear hb1
 go_wp2_with fail
 refine hK.out _ _ ⟨cell_stay HX.out.1 HB1.out, cell_stay HX.out.2.1 HB1.out, cell_stay HX.out.2.2.1 HB1.out, cell_stay HX.out.2.2.2 HB1.out, cell_stay HY.out.1 HB1.out, cell_stay HY.out.2.1 HB1.out, cell_stay HY.out.2.2.1 HB1.out, cell_stay HY.out.2.2.2 HB1.out⟩ (fun hHeld => ?_)
 clear hK K
 try simp only [Act.put, set9]
 refine wpAnyH_ready (rs := [3]) (by kernel_rfl) (by simp) (AllReadyH.cons (by simp only [get9]; rfl) (fun K hK => ?_) AllReadyH.nil)
 go_simp
 refine (HNY.out _ (HB.out.trans (HB1.out.mono HB.out.size))).mono ?_
 rintro e w2 ⟨g2, rfl, hg2, hm2, hb2⟩
 have HB2 : Hid (Below W0.heap.size W0 w2) := Lib.hid (HB1.out.trans (hb2.mono HB1.out.size))
 have HM2 := Lib.hid hm2
 replace HM1 := Lib.hid (HM1.out.kept (grown_below hb2 none) (by simp))
 clear hm2
 clear hb2
 go_wp2_with fail
 refine hK.out _ _ ⟨cell_stay HX.out.1 HB2.out, cell_stay HX.out.2.1 HB2.out, cell_stay HX.out.2.2.1 HB2.out, cell_stay HX.out.2.2.2 HB2.out, cell_stay HY.out.1 HB2.out, cell_stay HY.out.2.1 HB2.out, cell_stay HY.out.2.2.1 HB2.out, cell_stay HY.out.2.2.2 HB2.out⟩ (fun hHeld => ?_)
 clear hK K
 try simp only [Act.put, set9]
 have hdummy : True := trivial
 have hg2s := HM2.out.lt
 have hg1s := HM1.out.lt
 have hs0 := HB.out.size
 have hs2 := HB2.out.size
 have hs1 := HB1.out.size
 have hg0 : g < w.heap.size := HBX.out.rows.hi
 have hlo0 := HBX.out.rows.lo
 have hlo1 := HBX.out.lo
 have hgp : gp < w.heap.size := (Array.getElem?_eq_some_iff.1 HBX.out.box).1
 have hg11 : W0.heap.size ≤ g1 := hg1
 have hg22 : W0.heap.size ≤ g2 := Nat.le_trans HB1.out.size hg2
 have HBW := Lib.hid (HB.out.trans (HB2.out.mono HB.out.size))
 refine wpAnyH_ready (rs := [5]) (by kernel_rfl) (by simp) (AllReadyH.cons (by simp only [get9]; rfl) (fun K hK => ?_) AllReadyH.nil)
 go_simp
 refine (sharedAdd_any s t true false HZ.out hxp HM1.out HM2.out (HBX.out.same HBW.out) hn0 (by omega) (by omega)).mono ?_
 rintro e w3 ⟨rfl, rs3, g3, n3, c3, hbx3, hbut, hn3, hg3⟩
 have HBX3 := Lib.hid hbx3
 have HBW3 := Lib.hid (hbut.below (HBW.out.mono (by omega)) hlo0 hlo1 (by omega))
 have HBU := Lib.hid hbut
 clear hbx3 hbut
 go_wp2_with fail
 refine hK.out _ _ ⟨cell_but (cell_stay HX.out.1 HB2.out) HBU.out (by first | omega | (show _ ≠ _; simp only []; omega)) (by first | omega | (show _ ≠ _; simp only []; omega)), cell_but (cell_stay HX.out.2.1 HB2.out) HBU.out (by first | omega | (show _ ≠ _; simp only []; omega)) (by first | omega | (show _ ≠ _; simp only []; omega)), cell_but (cell_stay HX.out.2.2.1 HB2.out) HBU.out (by first | omega | (show _ ≠ _; simp only []; omega)) (by first | omega | (show _ ≠ _; simp only []; omega)), cell_but (cell_stay HX.out.2.2.2 HB2.out) HBU.out (by first | omega | (show _ ≠ _; simp only []; omega)) (by first | omega | (show _ ≠ _; simp only []; omega)), cell_but (cell_stay HY.out.1 HB2.out) HBU.out (by first | omega | (show _ ≠ _; simp only []; omega)) (by first | omega | (show _ ≠ _; simp only []; omega)), cell_but (cell_stay HY.out.2.1 HB2.out) HBU.out (by first | omega | (show _ ≠ _; simp only []; omega)) (by first | omega | (show _ ≠ _; simp only []; omega)), cell_but (cell_stay HY.out.2.2.1 HB2.out) HBU.out (by first | omega | (show _ ≠ _; simp only []; omega)) (by first | omega | (show _ ≠ _; simp only []; omega)), cell_but (cell_stay HY.out.2.2.2 HB2.out) HBU.out (by first | omega | (show _ ≠ _; simp only []; omega)) (by first | omega | (show _ ≠ _; simp only []; omega))⟩ (fun hHeld => ?_)
 clear hK K
 try simp only [Act.put, set9]
 refine wpAnyH_done (by kernel_rfl) ?_ _
 go_wp2_with fail
 go_end0
 exact ⟨rfl, rs3, g3, n3, c3, by have h9 := HBX3.out; rw [← delivs_shared] at h9; exact h9, HBW3.out⟩
set_option maxHeartbeats 2000000 in
set_option maxRecDepth 100000 in
theorem eachTurned_any {v v' : Value} {x y : Mac} (s t : Int) {gp : Nat} {rs : List Nat} {w : World} {B g n0 c0 : Nat} {l : List (Int × Int)} (h : MacW w v x) (h' : MacW w v' y) (hz : ∀ z ∈ x.moves, Wmv z) (hz' : ∀ z ∈ y.moves, Wmv z) (hn : x.parts ≤ 100000000) (hn' : y.parts ≤ 100000000)
  (hbx : BoxR gp rs w B g n0 c0 l) (hn0 : n0 ≤ 100000000) :
  Calls Try.prog 62 #[partyV v s, partyV v' t, .func (.func 64) #[.pointer (some ⟨gp, 0, none⟩)] #[]] w fun e w' => e = .returned (.tuple #[]) ∧ ∃ rs' g' n' c', BoxR gp rs' w' B g' n' c' (l ++ (delivs x s y t).map Prod.swap) ∧ Below B w w' := by
 obtain ⟨p, np, cp, a, n, c, rfl⟩ := h.shape
 obtain ⟨p', np', cp', a', n', c', rfl⟩ := h'.shape
 obtain ⟨hB, hX, hY, hS⟩ := twice w #[.int .i64 x.st, .slice p np cp, .slice a n c, .int .i64 s] #[.int .i64 y.st, .slice p' np' cp', .slice a' n' c', .int .i64 t] 73 73
 have HB := Lib.hid hB
 have HX := Lib.hid (four_at hX)
 have HY := Lib.hid (four_at hY)
 have HBX := Lib.hid hbx
 have HNX : Hid (∀ W', Below w.heap.size w W' → Calls Try.prog 93 #[.agg #[.int .i64 x.st, .slice p np cp, .slice a n c, .int .i64 s], .bool true] W' fun e w' => ∃ g, e = .returned (.map (some g)) ∧ W'.heap.size ≤ g ∧ w'.ownsMap Try.prog 3 (plainElem (H := Unit) Try.prog 3) g x.moves.length (nx s true x.moves) ∧ Below W'.heap.size W' w') := Lib.hid fun W' hb => by
  have q := next_any s true (h.same hb) hz (by omega)
  rw [party_eq] at q
  exact q
 have HNY : Hid (∀ W', Below w.heap.size w W' → Calls Try.prog 93 #[.agg #[.int .i64 y.st, .slice p' np' cp', .slice a' n' c', .int .i64 t], .bool false] W' fun e w' => ∃ g, e = .returned (.map (some g)) ∧ W'.heap.size ≤ g ∧ w'.ownsMap Try.prog 3 (plainElem (H := Unit) Try.prog 3) g y.moves.length (nx t false y.moves) ∧ Below W'.heap.size W' w') := Lib.hid fun W' hb => by
  have q := next_any t false (h'.same hb) hz' (by omega)
  rw [party_eq] at q
  exact q
 have HZ := Lib.hid hz
 have hxp : x.moves.length ≤ 100000000 := by unfold Mac.parts at hn; omega
 clear hB hX hY hS h h' hz hz' hbx
 rw [party_eq, party_eq]
 go_enter Try.func62, Try.ntmps62
 go_wp2_with fail
 generalize ((w.alloc (.cells #[.int .i64 x.st, .slice p np cp, .slice a n c, .int .i64 s] 73)).alloc (.cells #[.int .i64 y.st, .slice p' np' cp', .slice a' n' c', .int .i64 t] 73)) = W0 at *
 have HBd : Hid (Below W0.heap.size W0 W0.drew) := Lib.hid (Below.refl _ _).drew
 refine wp_region_held_drew (S := fun w9 => w9.cell? ⟨w.heap.size, 0, none⟩ = some (.int .i64 x.st) ∧ w9.cell? ⟨w.heap.size, 1, none⟩ = some (.slice p np cp) ∧ w9.cell? ⟨w.heap.size, 2, none⟩ = some (.slice a n c) ∧ w9.cell? ⟨w.heap.size, 3, none⟩ = some (.int .i64 s) ∧ w9.cell? ⟨w.heap.size + 1, 0, none⟩ = some (.int .i64 y.st) ∧ w9.cell? ⟨w.heap.size + 1, 1, none⟩ = some (.slice p' np' cp') ∧ w9.cell? ⟨w.heap.size + 1, 2, none⟩ = some (.slice a' n' c') ∧ w9.cell? ⟨w.heap.size + 1, 3, none⟩ = some (.int .i64 t)) (by kernel_rfl) ⟨cell_stay HX.out.1 HBd.out, cell_stay HX.out.2.1 HBd.out, cell_stay HX.out.2.2.1 HBd.out, cell_stay HX.out.2.2.2 HBd.out, cell_stay HY.out.1 HBd.out, cell_stay HY.out.2.1 HBd.out, cell_stay HY.out.2.2.1 HBd.out, cell_stay HY.out.2.2.2 HBd.out⟩ (fun hHeld => ?_)
 refine wpAnyH_take (i := 0) (v := ?v4) (by simp only [get9]; rfl) (by kernel_rfl) (by kernel_rfl) (by kernel_rfl) (by exact fun _ _ _ h => h) (Or.inl ⟨by rfl, fun w9 hS9 => ?hy4⟩) hHeld ?rest4
 case hy4 =>
  dsimp only at hS9
  obtain ⟨q0, q1, q2, q3, q4, q5, q6, q7⟩ := hS9
  go_simp
  try with_reducible rfl
 try simp only [Act.put, set9]
 refine wpAnyH_take (i := 2) (v := ?v5) (by simp only [get9]; rfl) (by kernel_rfl) (by kernel_rfl) (by kernel_rfl) (by exact fun _ _ _ h => h) (Or.inl ⟨by rfl, fun w9 hS9 => ?hy5⟩) hHeld ?rest5
 case hy5 =>
  dsimp only at hS9
  obtain ⟨q0, q1, q2, q3, q4, q5, q6, q7⟩ := hS9
  go_simp
  try with_reducible rfl
 try simp only [Act.put, set9]
 refine wpAnyH_take (i := 4) (v := ?v6) (by simp only [get9]; rfl) (by kernel_rfl) (by kernel_rfl) (by kernel_rfl) (by exact fun _ _ _ h => h) (Or.inl ⟨by rfl, fun w9 hS9 => ?hy6⟩) hHeld ?rest6
 case hy6 =>
  dsimp only at hS9
  obtain ⟨q0, q1, q2, q3, q4, q5, q6, q7⟩ := hS9
  go_simp
  try with_reducible rfl
 try simp only [Act.put, set9]
 refine wpAnyH_ready (rs := [1]) (by kernel_rfl) (by simp) (AllReadyH.cons (by simp only [get9]; rfl) (fun K hK => ?_) AllReadyH.nil)
 go_simp
 refine (HNX.out _ (HB.out.trans (HBd.out.mono HB.out.size))).mono ?_
 rintro e w1 ⟨g1, rfl, hg1, hm1, hb1⟩
 have HB1 : Hid (Below W0.heap.size W0 w1) := Lib.hid (HBd.out.trans (hb1.mono HBd.out.size))
 have HM1 := Lib.hid hm1
 clear hm1
 clear hb1
 go_wp2_with fail
 refine hK.out _ _ ⟨cell_stay HX.out.1 HB1.out, cell_stay HX.out.2.1 HB1.out, cell_stay HX.out.2.2.1 HB1.out, cell_stay HX.out.2.2.2 HB1.out, cell_stay HY.out.1 HB1.out, cell_stay HY.out.2.1 HB1.out, cell_stay HY.out.2.2.1 HB1.out, cell_stay HY.out.2.2.2 HB1.out⟩ (fun hHeld => ?_)
 clear hK K
 try simp only [Act.put, set9]
 refine wpAnyH_ready (rs := [3]) (by kernel_rfl) (by simp) (AllReadyH.cons (by simp only [get9]; rfl) (fun K hK => ?_) AllReadyH.nil)
 go_simp
 refine (HNY.out _ (HB.out.trans (HB1.out.mono HB.out.size))).mono ?_
 rintro e w2 ⟨g2, rfl, hg2, hm2, hb2⟩
 have HB2 : Hid (Below W0.heap.size W0 w2) := Lib.hid (HB1.out.trans (hb2.mono HB1.out.size))
 have HM2 := Lib.hid hm2
 replace HM1 := Lib.hid (HM1.out.kept (grown_below hb2 none) (by simp))
 clear hm2
 clear hb2
 go_wp2_with fail
 refine hK.out _ _ ⟨cell_stay HX.out.1 HB2.out, cell_stay HX.out.2.1 HB2.out, cell_stay HX.out.2.2.1 HB2.out, cell_stay HX.out.2.2.2 HB2.out, cell_stay HY.out.1 HB2.out, cell_stay HY.out.2.1 HB2.out, cell_stay HY.out.2.2.1 HB2.out, cell_stay HY.out.2.2.2 HB2.out⟩ (fun hHeld => ?_)
 clear hK K
 try simp only [Act.put, set9]
 have hdummy : True := trivial
 have hg2s := HM2.out.lt
 have hg1s := HM1.out.lt
 have hs0 := HB.out.size
 have hs2 := HB2.out.size
 have hs1 := HB1.out.size
 have hg0 : g < w.heap.size := HBX.out.rows.hi
 have hlo0 := HBX.out.rows.lo
 have hlo1 := HBX.out.lo
 have hgp : gp < w.heap.size := (Array.getElem?_eq_some_iff.1 HBX.out.box).1
 have hg11 : W0.heap.size ≤ g1 := hg1
 have hg22 : W0.heap.size ≤ g2 := Nat.le_trans HB1.out.size hg2
 have HBW := Lib.hid (HB.out.trans (HB2.out.mono HB.out.size))
 refine wpAnyH_ready (rs := [5]) (by kernel_rfl) (by simp) (AllReadyH.cons (by simp only [get9]; rfl) (fun K hK => ?_) AllReadyH.nil)
 go_simp
 refine (sharedTurned_any s t true false HZ.out hxp HM1.out HM2.out (HBX.out.same HBW.out) hn0 (by omega) (by omega)).mono ?_
 rintro e w3 ⟨rfl, rs3, g3, n3, c3, hbx3, hbut, hn3, hg3⟩
 have HBX3 := Lib.hid hbx3
 have HBW3 := Lib.hid (hbut.below (HBW.out.mono (by omega)) hlo0 hlo1 (by omega))
 have HBU := Lib.hid hbut
 clear hbx3 hbut
 go_wp2_with fail
 refine hK.out _ _ ⟨cell_but (cell_stay HX.out.1 HB2.out) HBU.out (by first | omega | (show _ ≠ _; simp only []; omega)) (by first | omega | (show _ ≠ _; simp only []; omega)), cell_but (cell_stay HX.out.2.1 HB2.out) HBU.out (by first | omega | (show _ ≠ _; simp only []; omega)) (by first | omega | (show _ ≠ _; simp only []; omega)), cell_but (cell_stay HX.out.2.2.1 HB2.out) HBU.out (by first | omega | (show _ ≠ _; simp only []; omega)) (by first | omega | (show _ ≠ _; simp only []; omega)), cell_but (cell_stay HX.out.2.2.2 HB2.out) HBU.out (by first | omega | (show _ ≠ _; simp only []; omega)) (by first | omega | (show _ ≠ _; simp only []; omega)), cell_but (cell_stay HY.out.1 HB2.out) HBU.out (by first | omega | (show _ ≠ _; simp only []; omega)) (by first | omega | (show _ ≠ _; simp only []; omega)), cell_but (cell_stay HY.out.2.1 HB2.out) HBU.out (by first | omega | (show _ ≠ _; simp only []; omega)) (by first | omega | (show _ ≠ _; simp only []; omega)), cell_but (cell_stay HY.out.2.2.1 HB2.out) HBU.out (by first | omega | (show _ ≠ _; simp only []; omega)) (by first | omega | (show _ ≠ _; simp only []; omega)), cell_but (cell_stay HY.out.2.2.2 HB2.out) HBU.out (by first | omega | (show _ ≠ _; simp only []; omega)) (by first | omega | (show _ ≠ _; simp only []; omega))⟩ (fun hHeld => ?_)
 clear hK K
 try simp only [Act.put, set9]
 refine wpAnyH_done (by kernel_rfl) ?_ _
 go_wp2_with fail
 go_end0
 exact ⟨rfl, rs3, g3, n3, c3, by have h9 := HBX3.out; rw [← delivs_shared] at h9; exact h9, HBW3.out⟩
end Go.Proofs.Ytckmgbobkffabaa
