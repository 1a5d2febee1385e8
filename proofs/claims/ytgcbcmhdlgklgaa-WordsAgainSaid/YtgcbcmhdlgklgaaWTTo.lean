/- What counting words yields. No statement is proved here. -/
import Derived.Test.YtgcbcmhdlgklgaaWTRow
namespace Go.Proofs.Ytgcbcmhdlgklgaa
open Go.RowKit Go.Lib
set_option maxRecDepth 100000

theorem take_at {α : Type} {L : List α} {j : Nat} {p : α} (hp : L[j]? = some p) : L = L.take j ++ p :: L.drop (j + 1) := by
  have h := lt_of_get hp
  conv => lhs; rw [← List.take_append_drop j L, List.drop_eq_getElem_cons h]
  obtain ⟨_, e⟩ := List.getElem?_eq_some_iff.1 hp
  rw [e]
theorem termsF_append : ∀ (a b : List (List Int)) (L : List Tm), termsF (a ++ b) L = (termsF a L).bind (termsF b)
  | [], b, L => rfl
  | x :: r, b, L => by
    rw [List.cons_append, termsF, termsF]
    cases h : addW L x with
    | none => rfl
    | some M => exact termsF_append r b M
theorem termsF_step {l : List (List Int)} {m : Nat} {x : List Int} {L : List Tm} (hx : l[m]? = some x) (h : termsF (l.take m) [] = some L) : termsF (l.take (m + 1)) [] = addW L x := by
  rw [List.take_add_one, hx, Option.toList_some, termsF_append, h]
  show (addW L x).bind (termsF []) = addW L x
  cases addW L x <;> rfl
theorem termsF_fail {l : List (List Int)} {m : Nat} {x : List Int} {L : List Tm} (hx : l[m]? = some x) (h : termsF (l.take m) [] = some L) (h2 : addW L x = none) : termsF l [] = none := by
  conv => lhs; rw [take_at hx, termsF_append, h]
  show (addW L x).bind _ = none
  rw [h2]; rfl
def TermsTo (w : World) (r : Option (List Tm)) (e : Ending) (w' : World) : Prop := (match r with
  | some L => ∃ v, e = .returned (.tuple #[v, .int .i64 0]) ∧ OwnT w' w.heap.size v L
  | none => e = .returned (.tuple #[.slice none 0 0, .int .i64 101])) ∧ Below w.heap.size w w'
def listT : Option (List Tm) → List Tm
  | some L => L
  | none => []
def codeT : Option (List Tm) → Int
  | some _ => 0
  | none => 101
theorem TermsTo.both {w : World} {r : Option (List Tm)} {e : Ending} {w' : World} (h : TermsTo w r e w') : ∃ a c, e = .returned (.tuple #[.slice a (listT r).length c, .int .i64 (codeT r)]) ∧ OwnT w' w.heap.size (.slice a (listT r).length c) (listT r) ∧ Below w.heap.size w w' := by
  obtain ⟨h, hb⟩ := h
  cases r with
  | some L =>
    obtain ⟨v, rfl, ho⟩ := h
    obtain ⟨a, c, rfl, -⟩ := ho.form
    exact ⟨a, c, rfl, ho, hb⟩
  | none => exact ⟨none, 0, h, OwnT.nil _ _, hb⟩
theorem termsF_counted {l : List (List Int)} (h : ∀ x ∈ l, isB x) {L : List Tm} (e : termsF l [] = some L) : Counted l L := by
  have key : ∀ (r l : List (List Int)) (M L : List Tm), Counted l M → (∀ x ∈ l, isB x) → (∀ x ∈ r, isB x) → termsF r M = some L → Counted (l ++ r) L := by
    intro r
    induction r with
    | nil => intro l M L h _ _ e; rw [termsF] at e; injection e with e; subst e; simpa using h
    | cons x r ih =>
      intro l M L h hl hr e
      rw [termsF] at e
      cases e2 : addW M x with
      | none => rw [e2] at e; cases e
      | some M' =>
        rw [e2] at e
        have := ih (l ++ [x]) M' L (h.add hl (hr x (by simp)) e2) (fun y hy => (List.mem_append.1 hy).elim (hl y) (fun h => by rw [List.mem_singleton.1 h]; exact hr x (by simp))) (fun y hy => hr y (by simp [hy])) e
        simpa using this
  simpa using key l [] [] L Counted.nil (by simp) h e
end Go.Proofs.Ytgcbcmhdlgklgaa
