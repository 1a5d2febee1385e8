/- Rows of letters, and the words that are made of them. No statement is proved here. -/
import Derived.Test.YtgcbcmhdlgklgaaWDec
import Derived.Test.YtgcbcmhdlgklgaaWJoin
namespace Go.Proofs.Ytgcbcmhdlgklgaa
open Go.RowKit Go.Lib
set_option maxRecDepth 100000

/-- A letter is written in the bytes from which it was read. -/
theorem take_enc {l : List Int} (hb : isB l) (h1 : 1 ≤ l.length) (h : letterZ ((decL l).1 : Int) = true) : l.take (decL l).2 = encodeRuneZ ((decL l).1 : Int) := by
  have hr := letter_rng h
  revert hr
  cases l with
  | nil => simp at h1
  | cons b0 t =>
    have g0 := hb b0 (by simp)
    unfold decL decodeN
    have e0 : (b0 :: t).getD 0 0 = b0 := rfl
    rw [e0]
    split
    · intro hr
      rename_i hlt
      simp only at hr ⊢
      rw [encodeRuneZ_one (by omega) (by omega)]
      simp only [List.take_succ_cons, List.take_zero]
      congr 1
      omega
    · split
      · split
        · intro hr
          rename_i h2 h3
          simp only at hr ⊢
          cases t with
          | nil => simp at h2
          | cons b1 t =>
            have g1 := hb b1 (by simp)
            have e1 : (b0 :: b1 :: t).getD 1 0 = b1 := rfl
            rw [e1] at h2 h3 hr ⊢
            rw [encodeRuneZ_two (by omega) (by omega)]
            simp only [List.take_succ_cons, List.take_zero]
            congr 1
            · omega
            · congr 1
              omega
        · intro hr; simp only at hr; omega
      · split
        · split
          · intro hr; simp only at hr; omega
          · intro hr; simp only at hr; omega
        · split
          · split
            · intro hr; simp only at hr; omega
            · intro hr; simp only at hr; omega
          · intro hr; simp only at hr; omega
theorem runesL_letters (rs : List Int) (h : ∀ r ∈ rs, letterZ r = true) : runesL (rs.flatMap encodeRuneZ) = rs := by
  induction rs with
  | nil => rfl
  | cons r rs ih =>
    have hr := h r (by simp)
    have hl := encodeRuneZ_length r
    have hg := letter_rng hr
    rw [List.flatMap_cons, runesL_step _ (by rw [List.length_append]; omega), decL_enc hr, List.drop_append_of_le_length (Nat.le_refl _), List.drop_length, List.nil_append, ih fun q hq => h q (by simp [hq])]
    congr 1
    omega
def finR (c : List Int) : List (List Int) := if c.length = 0 then [] else [c]
/-- The rows in some bytes, behind those of a row that is begun. -/
def rowsB : Nat → List Int → List Int → List (List Int)
  | 0, _, c => finR c
  | f + 1, l, c => if l.length = 0 then finR c else if letterZ ((decL l).1 : Int) then rowsB f (l.drop (decL l).2) (c ++ l.take (decL l).2) else finR c ++ rowsB f (l.drop (decL l).2) []
def rowsS (l c : List Int) : List (List Int) := rowsB l.length l c
theorem rowsB_more (f : Nat) : ∀ (g : Nat) (l c : List Int), l.length ≤ f → l.length ≤ g → rowsB f l c = rowsB g l c := by
  induction f with
  | zero => intro g l c h _; have : l.length = 0 := by omega
            cases g <;> simp [rowsB, this]
  | succ f ih =>
    intro g l c h1 h2
    cases g with
    | zero => have : l.length = 0 := by omega
              simp [rowsB, this]
    | succ g =>
      rw [rowsB, rowsB]
      split
      · rfl
      · rename_i h0
        have hp := decL_pos l
        rw [ih g _ _ (by rw [List.length_drop]; omega) (by rw [List.length_drop]; omega), ih g _ [] (by rw [List.length_drop]; omega) (by rw [List.length_drop]; omega)]
theorem rowsS_nil (c : List Int) : rowsS [] c = finR c := rfl
theorem rowsS_step (l c : List Int) (h : 1 ≤ l.length) : rowsS l c = if letterZ ((decL l).1 : Int) then rowsS (l.drop (decL l).2) (c ++ l.take (decL l).2) else finR c ++ rowsS (l.drop (decL l).2) [] := by
  unfold rowsS
  obtain ⟨n, hn⟩ : ∃ n, l.length = n + 1 := ⟨l.length - 1, by omega⟩
  have hp := decL_pos l
  conv => lhs; rw [hn, rowsB, if_neg (by omega)]
  rw [rowsB_more n (l.drop (decL l).2).length _ _ (by rw [List.length_drop]; omega) (Nat.le_refl _), rowsB_more n (l.drop (decL l).2).length _ [] (by rw [List.length_drop]; omega) (Nat.le_refl _)]
def foldB (c : List Int) : List Int := (runesL c).flatMap fun r => encodeRuneZ (foldZ r)
def wordOf (c : List Int) : List (List Int) := if c.length ≤ 40 then [foldB c] else []
theorem enc_fold_len {r : Int} (h : letterZ r = true) : (encodeRuneZ (foldZ r)).length = (encodeRuneZ r).length := by
  have hr := letter_rng h
  have hf := letter_rng (fold_letter h).1
  by_cases h1 : r ≤ 127
  · have h3 : foldZ r ≤ 127 := by unfold foldZ; repeat' split <;> omega
    rw [encodeRuneZ_one (by omega) h3, encodeRuneZ_one (by omega) h1]; rfl
  · have h3 : 128 ≤ foldZ r := by unfold foldZ; repeat' split <;> omega
    rw [encodeRuneZ_two h3 (by omega), encodeRuneZ_two (by omega) (by omega)]; rfl
theorem flat_fold_len (rs : List Int) (h : ∀ r ∈ rs, letterZ r = true) : (rs.flatMap fun r => encodeRuneZ (foldZ r)).length = (rs.flatMap encodeRuneZ).length := by
  induction rs with
  | nil => rfl
  | cons r rs ih => rw [List.flatMap_cons, List.flatMap_cons, List.length_append, List.length_append, enc_fold_len (h r (by simp)), ih fun q hq => h q (by simp [hq])]
theorem fin_word (rs : List Int) (h : ∀ r ∈ rs, letterZ r = true) : (finR (rs.flatMap encodeRuneZ)).flatMap wordOf = finW (rs.flatMap fun r => encodeRuneZ (foldZ r)) := by
  have hl := flat_fold_len rs h
  unfold finR finW
  rw [hl]
  by_cases h0 : (rs.flatMap encodeRuneZ).length = 0
  · rw [if_pos h0, if_neg (by omega)]; rfl
  · rw [if_neg h0, List.flatMap_cons, List.flatMap_nil, List.append_nil]
    unfold wordOf
    by_cases h4 : (rs.flatMap encodeRuneZ).length ≤ 40
    · rw [if_pos h4, if_pos (by omega), foldB, runesL_letters rs h]
    · rw [if_neg h4, if_neg (by omega)]
theorem words_rowsS (n : Nat) : ∀ (l : List Int) (rs : List Int), l.length ≤ n → isB l → (∀ r ∈ rs, letterZ r = true) → (rowsS l (rs.flatMap encodeRuneZ)).flatMap wordOf = wordsR (runesL l) (rs.flatMap fun r => encodeRuneZ (foldZ r)) := by
  have hnil : ∀ rs : List Int, (∀ r ∈ rs, letterZ r = true) → (rowsS [] (rs.flatMap encodeRuneZ)).flatMap wordOf = wordsR (runesL []) (rs.flatMap fun r => encodeRuneZ (foldZ r)) := fun rs h => by rw [rowsS_nil, fin_word rs h, runesL_nil, wordsR]
  induction n with
  | zero => intro l rs h _ hr; have : l = [] := List.eq_nil_of_length_eq_zero (by omega)
            subst this; exact hnil rs hr
  | succ n ih =>
    intro l rs h hb hr
    by_cases h0 : l.length = 0
    · have : l = [] := List.eq_nil_of_length_eq_zero h0
      subst this; exact hnil rs hr
    · have h1 : 1 ≤ l.length := by omega
      have hp := decL_pos l
      have hd : isB (l.drop (decL l).2) := fun x hx => hb x (List.mem_of_mem_drop hx)
      rw [rowsS_step l _ h1, runesL_step l h1, wordsR]
      by_cases hz : letterZ ((decL l).1 : Int) = true
      · rw [if_pos hz, if_pos hz, take_enc hb h1 hz]
        have := ih (l.drop (decL l).2) (rs ++ [((decL l).1 : Int)]) (by rw [List.length_drop]; omega) hd (fun r hm => (List.mem_append.1 hm).elim (hr r) (fun e => by simp at e; subst e; exact hz))
        rw [List.flatMap_append, List.flatMap_append] at this
        simpa using this
      · rw [if_neg hz, if_neg hz, List.flatMap_append, fin_word rs hr]
        have := ih (l.drop (decL l).2) [] (by rw [List.length_drop]; omega) hd (by simp)
        rw [List.flatMap_nil, List.flatMap_nil] at this
        rw [this]
theorem words_rows {l : List Int} (hb : isB l) : (rowsS l []).flatMap wordOf = wordsL l := words_rowsS l.length l [] (Nat.le_refl _) hb (by simp)
/-- What a row is: the bytes of letters. -/
def isRow (c : List Int) : Prop := 1 ≤ c.length ∧ ∃ rs : List Int, (∀ r ∈ rs, letterZ r = true) ∧ c = rs.flatMap encodeRuneZ
theorem isRow.isB {c : List Int} (h : isRow c) : isB c := by
  obtain ⟨-, rs, -, rfl⟩ := h
  intro x hx
  obtain ⟨r, -, hr⟩ := List.mem_flatMap.1 hx
  have := encodeRuneZ_byte r x hr
  omega
theorem isRow.runes {c : List Int} (h : isRow c) : ∀ r ∈ runesL c, letterZ r = true := by
  obtain ⟨-, rs, hr, rfl⟩ := h
  rw [runesL_letters rs hr]
  exact hr
theorem rowsS_are (n : Nat) : ∀ (l : List Int) (rs : List Int), l.length ≤ n → isB l → (∀ r ∈ rs, letterZ r = true) → ∀ x ∈ rowsS l (rs.flatMap encodeRuneZ), isRow x := by
  have fin : ∀ rs : List Int, (∀ r ∈ rs, letterZ r = true) → ∀ x ∈ finR (rs.flatMap encodeRuneZ), isRow x := fun rs hr x hx => by
    unfold finR at hx
    split at hx
    · cases hx
    · simp at hx; subst hx; exact ⟨by omega, rs, hr, rfl⟩
  induction n with
  | zero => intro l c h _ hc; have : l = [] := List.eq_nil_of_length_eq_zero (by omega)
            subst this; exact fin c hc
  | succ n ih =>
    intro l rs h hb hr
    by_cases h0 : l.length = 0
    · have : l = [] := List.eq_nil_of_length_eq_zero h0
      subst this; exact fin rs hr
    · have h1 : 1 ≤ l.length := by omega
      have hp := decL_pos l
      have hd : isB (l.drop (decL l).2) := fun x hx => hb x (List.mem_of_mem_drop hx)
      rw [rowsS_step l _ h1]
      by_cases hz : letterZ ((decL l).1 : Int) = true
      · rw [if_pos hz, take_enc hb h1 hz]
        have := ih (l.drop (decL l).2) (rs ++ [((decL l).1 : Int)]) (by rw [List.length_drop]; omega) hd (fun r hm => (List.mem_append.1 hm).elim (hr r) (fun e => by simp at e; subst e; exact hz))
        rw [List.flatMap_append] at this
        simpa using this
      · rw [if_neg hz]
        intro x hx
        rcases List.mem_append.1 hx with hx | hx
        · exact fin rs hr x hx
        · have := ih (l.drop (decL l).2) [] (by rw [List.length_drop]; omega) hd (by simp)
          rw [List.flatMap_nil] at this
          exact this x hx
theorem rows_are (l : List Int) (hb : isB l) : ∀ x ∈ rowsS l [], isRow x := rowsS_are l.length l [] (Nat.le_refl _) hb (by simp)
/-- The bytes of a text from a place to a place. -/
def cutB (l : List Int) (i j : Nat) : List Int := (l.drop i).take (j - i)
theorem cut_more (l : List Int) {i j k : Nat} (hij : i ≤ j) : cutB l i j ++ (l.drop j).take k = cutB l i (j + k) := by
  unfold cutB
  have e : l.drop j = (l.drop i).drop (j - i) := by rw [List.drop_drop]; congr 1; omega
  rw [e, show j + k - i = (j - i) + k by omega, List.take_add]
theorem cut_len (l : List Int) {i j : Nat} (hj : j ≤ l.length) : (cutB l i j).length = j - i := by
  unfold cutB
  rw [List.length_take, List.length_drop]
  omega
theorem byte_back : ((fun n : Int => UInt8.ofNat n.toNat) ∘ fun b : UInt8 => (b.toNat : Int)) = id := funext fun b => by simp
theorem strOf_bsI (s : ByteArray) : strOfNums (bsI s) = s := by
  apply ByteArray.ext
  apply Array.ext'
  rw [strOfNums_data, bsI, List.map_map, byte_back, List.map_id]
theorem extract_cut (s : ByteArray) (i j : Nat) : s.extract i j = strOfNums (cutB (bsI s) i j) := by
  apply ByteArray.ext
  apply Array.ext'
  rw [strOfNums_data]
  simp only [ByteArray.data_extract, Array.toList_extract, cutB, bsI]
  rw [List.extract_eq_take_drop, List.map_take, List.map_drop, List.map_map, byte_back, List.map_id]
end Go.Proofs.Ytgcbcmhdlgklgaa
