/- Decryption inverts encryption, and encryption inverts decryption: on lists of bytes. -/
import Derived.Test.YthdfdniidldkdaaCipher2
namespace Go.Proofs.Ythdfdniidldkdaa
set_option linter.unusedVariables false

theorem mapTo_get (f : Nat → Int → Int) {l : List Int} {j n : Nat} (h : j < n) : (mapTo f l n)[j]? = some (f j (l.getD j 0)) := by simp [mapTo, h]
theorem mapTo_bs {f : Nat → Int → Int} (hf : ∀ i x, 0 ≤ f i x ∧ f i x ≤ 255) (l : List Int) (n : Nat) : Bs (mapTo f l n) := by
  intro x hx
  obtain ⟨r, _, rfl⟩ := List.mem_map.1 hx
  exact hf _ _
theorem mapTo_back {f g : Nat → Int → Int} (h : ∀ i x, 0 ≤ x → x ≤ 255 → g i (f i x) = x) {l : List Int} (hB : Bs l) : mapTo g (mapTo f l l.length) (mapTo f l l.length).length = l := by
  rw [mapTo_len]
  apply List.ext_getElem?
  intro j
  by_cases hj : j < l.length
  · rw [mapTo_get g hj, List.getElem?_eq_getElem hj, List.getD, mapTo_get f hj]
    have hb := hB l[j] (List.getElem_mem hj)
    simp only [Option.getD_some, List.getD, List.getElem?_eq_getElem hj]
    rw [h j _ hb.1 hb.2]
  · rw [List.getElem?_eq_none (by rw [mapTo_len]; omega), List.getElem?_eq_none (by omega)]
theorem enc_bd (k : Int) (i : Nat) (x : Int) : 0 ≤ encAt k i x ∧ encAt k i x ≤ 255 := by unfold encAt; omega
theorem dec_bd (k : Int) (i : Nat) (x : Int) : 0 ≤ decAt k i x ∧ decAt k i x ≤ 255 := by unfold decAt; omega
theorem dec_enc (k : Int) {l : List Int} (hB : Bs l) : decr k (encr k l) = l := mapTo_back (fun i x h0 h1 => by unfold decAt encAt; omega) hB
theorem enc_dec (k : Int) {l : List Int} (hB : Bs l) : encr k (decr k l) = l := mapTo_back (fun i x h0 h1 => by unfold decAt encAt; omega) hB
theorem encr_bs (k : Int) (l : List Int) : Bs (encr k l) := mapTo_bs (enc_bd k) l _
theorem decr_bs (k : Int) (l : List Int) : Bs (decr k l) := mapTo_bs (dec_bd k) l _
end Go.Proofs.Ythdfdniidldkdaa
