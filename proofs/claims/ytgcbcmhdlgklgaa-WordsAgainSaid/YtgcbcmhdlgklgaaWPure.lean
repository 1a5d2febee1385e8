/- Texts as words: runes, letters, what is folded, words; words split again: plain words. No statement is proved here. -/
import Derived.Test.YtgcbcmhdlgklgaaY
import Derived.Lib.DecodeN
import Derived.Lib.RuneBytes
namespace Go.Proofs.Ytgcbcmhdlgklgaa
open Go.RowKit Go.Lib
set_option maxRecDepth 100000

def letterZ (r : Int) : Bool := decide ((48 ≤ r ∧ r ≤ 57) ∨ (65 ≤ r ∧ r ≤ 90) ∨ (97 ≤ r ∧ r ≤ 122) ∨ (192 ≤ r ∧ r ≤ 591 ∧ r ≠ 215 ∧ r ≠ 247) ∨ (880 ≤ r ∧ r ≤ 1279))
def foldZ (r : Int) : Int := if (65 ≤ r ∧ r ≤ 90) ∨ (192 ≤ r ∧ r ≤ 222) ∨ (913 ≤ r ∧ r ≤ 939) ∨ (1040 ≤ r ∧ r ≤ 1071) then r + 32 else if 1024 ≤ r ∧ r ≤ 1039 then r + 80 else r
theorem letter_rng {r : Int} (h : letterZ r = true) : 48 ≤ r ∧ r ≤ 1279 := by have := of_decide_eq_true h; omega
theorem letter_iff (r : Int) : letterZ r = true ↔ ((48 ≤ r ∧ r ≤ 57) ∨ (65 ≤ r ∧ r ≤ 90) ∨ (97 ≤ r ∧ r ≤ 122) ∨ (192 ≤ r ∧ r ≤ 591 ∧ r ≠ 215 ∧ r ≠ 247) ∨ (880 ≤ r ∧ r ≤ 1279)) := decide_eq_true_iff
theorem fold_letter {r : Int} (h : letterZ r = true) : letterZ (foldZ r) = true ∧ foldZ (foldZ r) = foldZ r := by
  rw [letter_iff] at h ⊢
  unfold foldZ
  repeat' split
  all_goals (constructor <;> omega)
/-- What is decoded at the head of some bytes. -/
def decL (l : List Int) : Nat × Nat := decodeN l.length (l.getD 0 0).toNat (l.getD 1 0).toNat (l.getD 2 0).toNat (l.getD 3 0).toNat
theorem decL_pos (l : List Int) : 1 ≤ (decL l).2 := by
  unfold decL decodeN
  repeat' split
  all_goals simp
theorem decL_le (l : List Int) (h : 1 ≤ l.length) : (decL l).2 ≤ l.length := by
  unfold decL decodeN
  repeat' split
  all_goals (simp only; omega)
theorem decL_rune (l : List Int) : (decL l).1 ≤ 1114111 := by
  unfold decL decodeN
  repeat' split
  all_goals (simp only; omega)
theorem getD_app (l t : List Int) (k : Nat) : (l ++ 32 :: t).getD k 0 = if k < l.length then l.getD k 0 else if k = l.length then 32 else t.getD (k - l.length - 1) 0 := by
  split
  · rename_i h
    simp [List.getD_eq_getElem?_getD, List.getElem?_append_left h]
  · split
    · rename_i h1 h2
      subst h2
      simp [List.getD_eq_getElem?_getD]
    · rename_i h1 h2
      have e : (l ++ 32 :: t)[k]? = t[k - l.length - 1]? := by
        rw [List.getElem?_append_right (by omega)]
        obtain ⟨j, hj⟩ : ∃ j, k - l.length = j + 1 := ⟨k - l.length - 1, by omega⟩
        rw [hj]; rfl
      simp only [List.getD_eq_getElem?_getD, e]
theorem getD_none (l : List Int) {k : Nat} (h : l.length ≤ k) : l.getD k 0 = 0 := by simp [List.getD_eq_getElem?_getD, List.getElem?_eq_none h]
/-- A blank behind bytes changes nothing of what is decoded at their head. -/
theorem decL_sep (l t : List Int) (h : 1 ≤ l.length) : decL (l ++ 32 :: t) = decL l := by
  unfold decL
  have hl : (l ++ 32 :: t).length = l.length + t.length + 1 := by simp; omega
  rw [hl, getD_app l t 0, getD_app l t 1, getD_app l t 2, getD_app l t 3, if_pos (show 0 < l.length by omega)]
  rcases (by omega : l.length = 1 ∨ l.length = 2 ∨ l.length = 3 ∨ 4 ≤ l.length) with e | e | e | e
  · simp only [e, getD_none l (show l.length ≤ 1 by omega), getD_none l (show l.length ≤ 2 by omega), getD_none l (show l.length ≤ 3 by omega)]
    simp [decodeN]
  · simp only [e, getD_none l (show l.length ≤ 2 by omega), getD_none l (show l.length ≤ 3 by omega)]
    simp [decodeN, show 0 < 2 + t.length by omega]
  · simp only [e, getD_none l (show l.length ≤ 3 by omega)]
    simp [decodeN, show 0 < 3 + t.length by omega, show 2 < 3 + t.length + 1 by omega]
  · rw [if_pos (show 1 < l.length by omega), if_pos (show 2 < l.length by omega), if_pos (show 3 < l.length by omega)]
    have c1 : (1 < l.length + t.length + 1) = (1 < l.length) := propext ⟨fun _ => by omega, fun _ => by omega⟩
    have c2 : (2 < l.length + t.length + 1) = (2 < l.length) := propext ⟨fun _ => by omega, fun _ => by omega⟩
    have c3 : (3 < l.length + t.length + 1) = (3 < l.length) := propext ⟨fun _ => by omega, fun _ => by omega⟩
    simp only [decodeN, c1, c2, c3]
/-- A letter's bytes are read as the letter. -/
theorem decL_enc {r : Int} (h : letterZ r = true) (t : List Int) : decL (encodeRuneZ r ++ t) = (r.toNat, (encodeRuneZ r).length) := by
  have hr := letter_rng h
  by_cases h1 : r ≤ 127
  · rw [encodeRuneZ_one (by omega) h1]
    unfold decL
    simp [decodeN]
    intro; omega
  · rw [encodeRuneZ_two (by omega) (by omega)]
    have e0 : ([192 + r / 64, 128 + r % 64] ++ t).length = t.length + 2 := by simp
    have e1 : ([192 + r / 64, 128 + r % 64] ++ t).getD 0 0 = 192 + r / 64 := by simp
    have e2 : ([192 + r / 64, 128 + r % 64] ++ t).getD 1 0 = 128 + r % 64 := by simp
    unfold decL
    rw [e0, e1, e2]
    generalize (([192 + r / 64, 128 + r % 64] ++ t).getD 2 0).toNat = b2
    generalize (([192 + r / 64, 128 + r % 64] ++ t).getD 3 0).toNat = b3
    have a0 : ¬ (192 + r / 64).toNat < 128 := by omega
    have a1 : (192 + r / 64).toNat / 32 = 6 ∧ (1 < t.length + 2 ∧ (128 + r % 64).toNat / 64 = 2) := by omega
    have a2 : (192 + r / 64).toNat % 32 * 64 + (128 + r % 64).toNat % 64 = r.toNat := by omega
    rw [decodeN, if_neg a0, if_pos a1, a2, if_pos (by omega)]
    rfl
/-- The runes of some bytes. -/
def runesF : Nat → List Int → List Int
  | 0, _ => []
  | f + 1, l => if l.length = 0 then [] else ((decL l).1 : Int) :: runesF f (l.drop (decL l).2)
def runesL (l : List Int) : List Int := runesF l.length l
theorem runesF_more (f : Nat) : ∀ (g : Nat) (l : List Int), l.length ≤ f → l.length ≤ g → runesF f l = runesF g l := by
  induction f with
  | zero => intro g l h _; have : l.length = 0 := by omega
            cases g <;> simp [runesF, this]
  | succ f ih =>
    intro g l h1 h2
    cases g with
    | zero => have : l.length = 0 := by omega
              simp [runesF, this]
    | succ g =>
      rw [runesF, runesF]
      split
      · rfl
      · rename_i h0
        have hp := decL_pos l
        rw [ih g _ (by rw [List.length_drop]; omega) (by rw [List.length_drop]; omega)]
theorem runesL_nil : runesL [] = [] := rfl
theorem runesL_step (l : List Int) (h : 1 ≤ l.length) : runesL l = ((decL l).1 : Int) :: runesL (l.drop (decL l).2) := by
  unfold runesL
  obtain ⟨n, hn⟩ : ∃ n, l.length = n + 1 := ⟨l.length - 1, by omega⟩
  have hp := decL_pos l
  conv => lhs; rw [hn, runesF, if_neg (by omega)]
  rw [runesF_more n (l.drop (decL l).2).length _ (by rw [List.length_drop]; omega) (Nat.le_refl _)]
theorem runesL_sep (a t : List Int) : runesL (a ++ 32 :: t) = runesL a ++ 32 :: runesL t := by
  obtain ⟨n, hn⟩ : ∃ n, a.length ≤ n := ⟨_, Nat.le_refl _⟩
  induction n generalizing a with
  | zero =>
    have : a = [] := List.eq_nil_of_length_eq_zero (by omega)
    subst this
    rw [runesL_nil, List.nil_append, List.nil_append, runesL_step _ (by simp)]
    have : decL (32 :: t) = (32, 1) := by unfold decL; simp [decodeN]
    rw [this]; rfl
  | succ n ih =>
    by_cases h0 : a.length = 0
    · exact ih a (by omega)
    · have h1 : 1 ≤ a.length := by omega
      have hp := decL_pos a
      have hl := decL_le a h1
      rw [runesL_step _ (by simp; omega), runesL_step a h1, decL_sep a t h1, List.drop_append_of_le_length hl, ih _ (by rw [List.length_drop]; omega)]
      rfl
/-- The words of some runes, behind the bytes of a word that is begun. -/
def finW (w : List Int) : List (List Int) := if 1 ≤ w.length ∧ w.length ≤ 40 then [w] else []
def wordsR : List Int → List Int → List (List Int)
  | [], w => finW w
  | r :: rs, w => if letterZ r then wordsR rs (w ++ encodeRuneZ (foldZ r)) else finW w ++ wordsR rs []
theorem wordsR_sep (a b : List Int) (w : List Int) : wordsR (a ++ 32 :: b) w = wordsR a w ++ wordsR b [] := by
  induction a generalizing w with
  | nil =>
    have e : wordsR (32 :: b) w = finW w ++ wordsR b [] := by rw [wordsR, if_neg (by decide)]
    rw [List.nil_append, e]; rfl
  | cons r a ih =>
    rw [List.cons_append, wordsR, wordsR]
    split
    · exact ih _
    · rw [ih, List.append_assoc]
def wordsL (l : List Int) : List (List Int) := wordsR (runesL l) []
theorem wordsL_sep (a b : List Int) : wordsL (a ++ 32 :: b) = wordsL a ++ wordsL b := by
  unfold wordsL
  rw [runesL_sep, wordsR_sep]
/-- What a word is: the bytes of folded letters. -/
def isWord (w : List Int) : Prop := (1 ≤ w.length ∧ w.length ≤ 40) ∧ ∃ rs : List Int, (∀ r ∈ rs, letterZ r = true ∧ foldZ r = r) ∧ w = rs.flatMap encodeRuneZ
theorem wordsR_are (rs : List Int) : ∀ (w : List Int), (∃ ps : List Int, (∀ r ∈ ps, letterZ r = true ∧ foldZ r = r) ∧ w = ps.flatMap encodeRuneZ) → ∀ x ∈ wordsR rs w, isWord x := by
  have fin : ∀ (w : List Int), (∃ ps : List Int, (∀ r ∈ ps, letterZ r = true ∧ foldZ r = r) ∧ w = ps.flatMap encodeRuneZ) → ∀ x ∈ finW w, isWord x := fun w h x hx => by
    unfold finW at hx
    split at hx
    · rename_i h1
      simp at hx
      subst hx
      exact ⟨h1, h⟩
    · cases hx
  induction rs with
  | nil => exact fin
  | cons r rs ih =>
    intro w h x hx
    rw [wordsR] at hx
    split at hx
    · rename_i hl
      obtain ⟨ps, h1, h2⟩ := h
      have hf := fold_letter hl
      refine ih _ ⟨ps ++ [foldZ r], fun q hq => ?_, by rw [h2]; simp⟩ x hx
      rcases List.mem_append.1 hq with hq | hq
      · exact h1 q hq
      · simp at hq; subst hq; exact hf
    · rcases List.mem_append.1 hx with hx | hx
      · exact fin w h x hx
      · exact ih [] ⟨[], by simp, rfl⟩ x hx
theorem wordsL_are (l : List Int) : ∀ x ∈ wordsL l, isWord x := wordsR_are _ _ ⟨[], by simp, rfl⟩
theorem runesL_word (rs : List Int) (h : ∀ r ∈ rs, letterZ r = true ∧ foldZ r = r) : runesL (rs.flatMap encodeRuneZ) = rs := by
  induction rs with
  | nil => rfl
  | cons r rs ih =>
    have hr := h r (by simp)
    have hl := encodeRuneZ_length r
    have hg := letter_rng hr.1
    rw [List.flatMap_cons, runesL_step _ (by rw [List.length_append]; omega), decL_enc hr.1, List.drop_append_of_le_length (Nat.le_refl _), List.drop_length, List.nil_append, ih fun q hq => h q (by simp [hq])]
    congr 1
    omega
theorem wordsR_word (rs : List Int) (h : ∀ r ∈ rs, letterZ r = true ∧ foldZ r = r) (w : List Int) : wordsR rs w = finW (w ++ rs.flatMap encodeRuneZ) := by
  induction rs generalizing w with
  | nil => rw [wordsR, List.flatMap_nil, List.append_nil]
  | cons r rs ih =>
    have hr := h r (by simp)
    rw [wordsR, if_pos hr.1, ih (fun q hq => h q (by simp [hq])), hr.2, List.flatMap_cons, List.append_assoc]
theorem wordsL_word {w : List Int} (h : isWord w) : wordsL w = [w] := by
  obtain ⟨h1, rs, h2, rfl⟩ := h
  unfold wordsL
  rw [runesL_word rs h2, wordsR_word rs h2, List.nil_append, finW, if_pos h1]
/-- Words with a blank between each two. -/
def joinW : List (List Int) → List Int
  | [] => []
  | [w] => w
  | w :: v :: r => w ++ 32 :: joinW (v :: r)
theorem wordsL_join : ∀ (ws : List (List Int)), (∀ w ∈ ws, isWord w) → wordsL (joinW ws) = ws
  | [], _ => rfl
  | [w], h => wordsL_word (h w (by simp))
  | w :: v :: r, h => by
    rw [joinW, wordsL_sep, wordsL_word (h w (by simp)), wordsL_join (v :: r) fun x hx => h x (by simp [hx])]
    rfl
/-- What Split tells: the first 200. -/
def splitL (l : List Int) : List (List Int) := (wordsL l).take 200
end Go.Proofs.Ytgcbcmhdlgklgaa
