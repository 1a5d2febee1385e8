/- The words of all texts in a value. No statement is proved here. -/
import Derived.Test.YtgcbcmhdlgklgaaWJoin
namespace Go.Proofs.Ytgcbcmhdlgklgaa
open Go.RowKit Go.Lib
set_option maxRecDepth 100000

mutual
/-- The words of all texts in a value. -/
def allW : V → List (List Int)
  | .mk k _ s l d => if k = 4 then splitL (bsI s) else if k = 6 then allWL l else if k = 5 then allWD d else []
def allWL : List V → List (List Int)
  | [] => []
  | x :: r => allW x ++ allWL r
def allWD : List (ByteArray × V) → List (List Int)
  | [] => []
  | (_, x) :: r => allW x ++ allWD r
end
theorem allWL_append : ∀ (a b : List V), allWL (a ++ b) = allWL a ++ allWL b
  | [], b => by rw [allWL]; rfl
  | x :: r, b => by rw [List.cons_append, allWL, allWL, allWL_append r b, List.append_assoc]
theorem allWD_append : ∀ (a b : List (ByteArray × V)), allWD (a ++ b) = allWD a ++ allWD b
  | [], b => by rw [allWD]; rfl
  | (s, x) :: r, b => by rw [List.cons_append, allWD, allWD, allWD_append r b, List.append_assoc]
theorem allWL_step {l : List V} {k : Nat} {x : V} (h : l[k]? = some x) : allWL (l.take (k + 1)) = allWL (l.take k) ++ allW x := by
  rw [List.take_add_one, h, Option.toList_some, allWL_append, allWL, allWL, List.append_nil]
theorem allWD_step {l : List (ByteArray × V)} {k : Nat} {x : ByteArray × V} (h : l[k]? = some x) : allWD (l.take (k + 1)) = allWD (l.take k) ++ allW x.2 := by
  obtain ⟨s, x⟩ := x
  rw [List.take_add_one, h, Option.toList_some, allWD_append, allWD, allWD, List.append_nil]
theorem allWL_room {l : List V} {k : Nat} {x : V} (h : l[k]? = some x) : (allWL (l.take k)).length + (allW x).length ≤ (allWL l).length := by
  have e := congrArg List.length (allWL_append (l.take (k + 1)) (l.drop (k + 1)))
  rw [List.take_append_drop, allWL_step h, List.length_append, List.length_append] at e
  omega
theorem allWD_room {l : List (ByteArray × V)} {k : Nat} {x : ByteArray × V} (h : l[k]? = some x) : (allWD (l.take k)).length + (allW x.2).length ≤ (allWD l).length := by
  have e := congrArg List.length (allWD_append (l.take (k + 1)) (l.drop (k + 1)))
  rw [List.take_append_drop, allWD_step h, List.length_append, List.length_append] at e
  omega
theorem OwnS.lower {w : World} {B C : Nat} {v : Value} {ws : List (List Int)} (h : OwnS w B v ws) (hC : C ≤ B) : OwnS w C v ws := by
  obtain ⟨h1, h2⟩ := h
  refine ⟨h1, ?_⟩
  rcases h2 with h2 | ⟨g, cap, cur, hv, hB, hrest⟩
  · exact .inl h2
  · exact .inr ⟨g, cap, cur, hv, Nat.le_trans hC hB, hrest⟩
end Go.Proofs.Ytgcbcmhdlgklgaa
