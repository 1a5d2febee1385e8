/- How many words of a value a text has, No statement is proved here. -/
import Derived.Test.YtgcbcmhdlgklgaaWAllP
import Derived.Lib.Strings
namespace Go.Proofs.Ytgcbcmhdlgklgaa
open Go.RowKit Go.Lib
set_option maxRecDepth 100000

mutual
theorem allW_are : ∀ (v : V), ∀ x ∈ allW v, isWord x
  | .mk k n s l d, x, hx => by
    rw [allW] at hx
    split at hx
    · exact splitL_are x hx
    split at hx
    · exact allWL_are l x hx
    split at hx
    · exact allWD_are d x hx
    · cases hx
theorem allWL_are : ∀ (l : List V), ∀ x ∈ allWL l, isWord x
  | [], x, hx => by rw [allWL] at hx; cases hx
  | v :: r, x, hx => by
    rw [allWL, List.mem_append] at hx
    exact hx.elim (allW_are v x) (allWL_are r x)
theorem allWD_are : ∀ (d : List (ByteArray × V)), ∀ x ∈ allWD d, isWord x
  | [], x, hx => by rw [allWD] at hx; cases hx
  | (s, v) :: r, x, hx => by
    rw [allWD, List.mem_append] at hx
    exact hx.elim (allW_are v x) (allWD_are r x)
end
theorem word_same {x y : List Int} (hx : isWord x) (hy : isWord y) (n : Bool) (h : decide (x = y) = n) : ((strOfNums x).toList == (strOfNums y).toList) = n := by
  subst h
  by_cases e : x = y
  · subst e; simp
  · rw [decide_eq_false e]
    refine Bool.eq_false_iff.2 fun h => e ?_
    have h2 := eq_of_beq h
    rw [← bsI_str (word_isB hx), ← bsI_str (word_isB hy)]
    rw [toList_data, toList_data] at h2
    rw [show strOfNums x = strOfNums y from by apply ByteArray.ext; apply Array.ext'; exact h2]
/-- How many of these words are among those. -/
def scoreW (l ws : List (List Int)) : Nat := (l.filter fun x => decide (x ∈ ws)).length
theorem scoreW_step {l ws : List (List Int)} {k : Nat} {x : List Int} (h : l[k]? = some x) : scoreW (l.take (k + 1)) ws = scoreW (l.take k) ws + (if x ∈ ws then 1 else 0) := by
  rw [scoreW, scoreW, List.take_add_one, h, Option.toList_some, List.filter_append, List.length_append]
  congr 1
  by_cases e : x ∈ ws
  · rw [if_pos e, List.filter_cons_of_pos (by simpa using e)]; rfl
  · rw [if_neg e, List.filter_cons_of_neg (by simpa using e)]; rfl
theorem scoreW_le (l ws : List (List Int)) : scoreW l ws ≤ l.length := List.length_filter_le _ _
theorem mem_step {l : List (List Int)} {k : Nat} {x y : List Int} (h : l[k]? = some y) : decide (x ∈ l.take (k + 1)) = (decide (x ∈ l.take k) || decide (y = x)) := by
  rw [List.take_add_one, h, Option.toList_some]
  by_cases e2 : y = x
  · subst e2; simp
  · have e3 : ¬ x = y := fun h => e2 h.symm
    simp [e2, e3]
end Go.Proofs.Ytgcbcmhdlgklgaa
