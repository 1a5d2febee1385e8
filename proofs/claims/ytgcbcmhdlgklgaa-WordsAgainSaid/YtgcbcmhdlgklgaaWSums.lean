/- Scores are sums of counts: no program here. No statement is proved here. -/
import Derived.Test.YtgcbcmhdlgklgaaWTPure
namespace Go.Proofs.Ytgcbcmhdlgklgaa
open Go.RowKit Go.Lib
set_option maxRecDepth 100000

/-- The counts of those of the words, in a row, that are among these. -/
def sumT (ws : List (List Int)) : List Tm → Nat
  | [] => 0
  | p :: r => (if p.1 ∈ ws then p.2 else 0) + sumT ws r
theorem sumT_append (ws : List (List Int)) : ∀ (a b : List Tm), sumT ws (a ++ b) = sumT ws a + sumT ws b
  | [], b => by simp [sumT]
  | p :: r, b => by rw [List.cons_append, sumT, sumT, sumT_append ws r b]; omega
theorem sumT_step {ws : List (List Int)} {L : List Tm} {k : Nat} {p : Tm} (h : L[k]? = some p) : sumT ws (L.take (k + 1)) = sumT ws (L.take k) + (if p.1 ∈ ws then p.2 else 0) := by
  rw [List.take_add_one, h, Option.toList_some, sumT_append]; simp [sumT]
theorem sumT_room {ws : List (List Int)} {L : List Tm} {k : Nat} {p : Tm} (h : L[k]? = some p) : sumT ws (L.take k) + (if p.1 ∈ ws then p.2 else 0) ≤ sumT ws L := by
  have e := sumT_append ws (L.take (k + 1)) (L.drop (k + 1))
  rw [List.take_append_drop, sumT_step h] at e
  omega
theorem filter_apart (ws : List (List Int)) (y : List Int) : ∀ l : List (List Int), scoreW l ws = scoreW (l.filter fun x => decide (x ≠ y)) ws + (if y ∈ ws then l.count y else 0)
  | [] => by simp [scoreW]
  | x :: r => by
    have ih := filter_apart ws y r
    have hs : ∀ (a : List Int) (m : List (List Int)), scoreW (a :: m) ws = (if a ∈ ws then 1 else 0) + scoreW m ws := fun a m => by
      rw [scoreW, scoreW]
      by_cases e : a ∈ ws
      · rw [if_pos e, List.filter_cons_of_pos (by simpa using e), List.length_cons]; omega
      · rw [if_neg e, List.filter_cons_of_neg (by simpa using e)]; omega
    rw [hs]
    by_cases e : x = y
    · subst e
      rw [List.filter_cons_of_neg (by simp), List.count_cons_self, ih]
      by_cases h : x ∈ ws
      · simp only [h, if_true]; omega
      · simp [h]
    · rw [List.filter_cons_of_pos (by simpa using e), hs, List.count_cons_of_ne e, ih]
      omega
theorem sumT_is (ws : List (List Int)) : ∀ (L : List Tm) (l : List (List Int)), SortT L → (∀ p ∈ L, p.2 = l.count p.1) → (∀ y ∈ l, y ∈ keysT L) → sumT ws L = scoreW l ws
  | [], l, _, _, hk => by
    have : l = [] := List.eq_nil_iff_forall_not_mem.2 fun y hy => by have := hk y hy; simp [keysT] at this
    subst this; rfl
  | (y, c) :: r, l, hs, hc, hk => by
    obtain ⟨h1, h2⟩ := List.pairwise_cons.1 hs
    have far : ∀ q ∈ r, q.1 ≠ y := fun q hq e => by have := h1 q hq; rw [e, ltW_irrefl] at this; cases this
    have ih := sumT_is ws r (l.filter fun x => decide (x ≠ y)) h2 (fun p hp => by
      rw [hc p (by simp [hp]), List.count_filter (by simpa using far p hp)]) (fun z hz => by
      obtain ⟨hz1, hz2⟩ := List.mem_filter.1 hz
      have := hk z hz1
      simp only [keysT, List.map_cons, List.mem_cons] at this
      exact this.resolve_left (by simpa using hz2))
    have e : c = l.count y := hc (y, c) (by simp)
    rw [sumT, ih, filter_apart ws y l, ← e]
    show (if y ∈ ws then c else 0) + _ = _
    omega
/-- The score is the sum. -/
theorem Counted.score {l : List (List Int)} {L : List Tm} (h : Counted l L) (ws : List (List Int)) : sumT ws L = scoreW l ws := sumT_is ws L l h.sorted h.count fun y hy => (h.keys y).2 hy
#print axioms Counted.score
end Go.Proofs.Ytgcbcmhdlgklgaa
