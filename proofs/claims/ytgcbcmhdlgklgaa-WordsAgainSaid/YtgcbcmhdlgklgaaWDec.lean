/- What the model decodes, as plain words decode. No statement is proved here. -/
import Derived.Test.YtgcbcmhdlgklgaaWPure
namespace Go.Proofs.Ytgcbcmhdlgklgaa
open Go.RowKit Go.Lib
set_option maxRecDepth 100000

theorem decL_at (s : ByteArray) (pos : Nat) : Utf8.decode s pos = decL ((bsI s).drop pos) := by
  have get : ∀ k, ((bsI s).drop pos).getD k 0 = ((s.get! (pos + k)).toNat : Int) := fun k => by
    rw [List.getD_eq_getElem?_getD, List.getElem?_drop]
    by_cases h : pos + k < s.size
    · have : (bsI s)[pos + k]? = some ((s.get! (pos + k)).toNat : Int) := by
        rw [bsI, List.getElem?_map]
        have hg : s.data.toList[pos + k]? = some (s.get! (pos + k)) := by
          rw [Array.getElem?_toList, Array.getElem?_eq_getElem (by simpa using h)]
          congr 1
          simp [ByteArray.get!, getElem!_pos, h]
        rw [hg]; rfl
      rw [this]; rfl
    · have e1 : (bsI s)[pos + k]? = none := List.getElem?_eq_none (by rw [bsI_len]; omega)
      have e2 : s.get! (pos + k) = 0 := by
        have h2 : ¬ pos + k < s.data.size := h
        show s.data[pos + k]! = 0
        rw [getElem!_neg s.data (pos + k) h2]
        rfl
      rw [e1, e2]; rfl
  rw [decode_at, decL, get 0, get 1, get 2, get 3, List.length_drop, bsI_len]
  simp only [Int.toNat_natCast, Nat.add_zero]
/-- A letter is written in as many bytes as it was read from. -/
theorem dec_size {l : List Int} (h : letterZ ((decL l).1 : Int) = true) : (encodeRuneZ (foldZ ((decL l).1 : Int))).length = (decL l).2 := by
  have hr := letter_rng h
  have hf := letter_rng (fold_letter h).1
  have hs : ((decL l).1 ≤ 127 ∧ (decL l).2 = 1) ∨ (128 ≤ (decL l).1 ∧ (decL l).2 = 2) := by
    revert hr
    unfold decL decodeN
    repeat' split
    all_goals (intro hr; simp only at hr; first | (exfalso; omega) | (left; refine ⟨?_, rfl⟩; show (_ : Nat) ≤ 127; omega) | (right; refine ⟨?_, rfl⟩; show 128 ≤ (_ : Nat); omega))
  rcases hs with ⟨h1, h2⟩ | ⟨h1, h2⟩
  · have h3 : foldZ ((decL l).1 : Int) ≤ 127 := by unfold foldZ; repeat' split <;> omega
    rw [encodeRuneZ_one (by omega) h3, h2]; rfl
  · have h3 : 128 ≤ foldZ ((decL l).1 : Int) := by unfold foldZ; repeat' split <;> omega
    rw [encodeRuneZ_two h3 (by omega), h2]; rfl
end Go.Proofs.Ytgcbcmhdlgklgaa
