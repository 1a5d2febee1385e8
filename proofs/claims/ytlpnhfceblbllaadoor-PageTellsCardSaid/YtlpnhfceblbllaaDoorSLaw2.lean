/- The law SumNumbers over the contracts. No statement is proved here. -/
import Derived.Test.YtlpnhfceblbllaaDoorSLaw1
namespace Go.Proofs.YtlpnhfceblbllaaDoor
open Go.RowKit
set_option maxRecDepth 100000

theorem rows_two {w : World} {B : Nat} {v1 v2 : Value} {l1 l2 : List Int} (h1 : OwnB w B v1 l1) (h2 : OwnB w B v2 l2) (hd : ∀ g, v1.ownBlock = some g → v2.ownBlock ≠ some g) (t : TypeId) : RowsAt (w.alloc (.cells #[v1, v2] t)) B w.heap.size 0 [(v1, l1), (v2, l2)] := by
  have new : ∀ (i : Nat) (u : Value), [v1, v2][i]? = some u → (w.alloc (.cells #[v1, v2] t)).cell? ⟨w.heap.size, 0 + i, none⟩ = some u := fun i u hu => by
    have h := news_at w #[v1, v2] t _ rfl i u hu
    rw [show (⟨w.heap.size, 0, none⟩ : Addr).add i = ⟨w.heap.size, 0 + i, none⟩ by unfold Addr.add; split <;> simp_all] at h
    exact h
  have two : ∀ (i : Nat) (v : Value) (l : List Int), [(v1, l1), (v2, l2)][i]? = some (v, l) → (i = 0 ∧ v = v1 ∧ l = l1) ∨ (i = 1 ∧ v = v2 ∧ l = l2) := fun i v l hi => by
    have := lt_of_get hi
    simp at this
    rcases (by omega : i = 0 ∨ i = 1) with rfl | rfl
    · left; injection hi with hi; injection hi with e1 e2; exact ⟨rfl, e1.symm, e2.symm⟩
    · right; injection hi with hi; injection hi with e1 e2; exact ⟨rfl, e1.symm, e2.symm⟩
  refine ⟨fun i v l hi => ?_, fun i v l hi => ?_, fun i v l hi e => ?_, fun i j v l v' l' hi hj hij g hg hg' => ?_⟩
  · rcases two i v l hi with ⟨rfl, rfl, rfl⟩ | ⟨rfl, rfl, rfl⟩
    · exact new 0 _ rfl
    · exact new 1 _ rfl
  · rcases two i v l hi with ⟨rfl, rfl, rfl⟩ | ⟨rfl, rfl, rfl⟩
    · exact h1.alloc _
    · exact h2.alloc _
  · rcases two i v l hi with ⟨rfl, rfl, rfl⟩ | ⟨rfl, rfl, rfl⟩
    · have := (h1.block _ e).2; omega
    · have := (h2.block _ e).2; omega
  · rcases two i v l hi with ⟨rfl, rfl, rfl⟩ | ⟨rfl, rfl, rfl⟩ <;> rcases two j v' l' hj with ⟨rfl, rfl, rfl⟩ | ⟨rfl, rfl, rfl⟩
    · omega
    · exact hd g hg hg'
    · exact hd g hg' hg
    · omega
theorem numL_len (n size : Int) : (numL n size).length ≤ 8 := by
  unfold numL
  cases h : okN n size
  · simp
  · have := of_decide_eq_true h
    simp [leB_len]
    omega
theorem OwnB.isNil {w : World} {B n c : Nat} {a : Option Addr} {l : List Int} (h : OwnB w B (.slice a n c) l) : a = none → l = [] := fun e => by
  obtain ⟨a', c', e', -, h0, -⟩ := h.shape
  injection e' with e1
  subst e1
  exact (h0 e).2
end Go.Proofs.YtlpnhfceblbllaaDoor
