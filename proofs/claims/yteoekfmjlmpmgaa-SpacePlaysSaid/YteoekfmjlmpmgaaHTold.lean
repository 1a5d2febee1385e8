/- What both sides tell of their spaces: the rows that Used gave are written over and grown. No statement is proved here. -/
import Derived.Test.YteoekfmjlmpmgaaHSame
import Derived.Test.YteoekfmjlmpmgaaHRef3
namespace Go.Proofs.Yteoekfmjlmpmgaa
open Go.RowKit
set_option maxRecDepth 100000

/-- Behind Used, since the world s: the two rows, the space, and the document's. -/
structure Tld (Sp : World → List Nat → Nat → List Int → Prop) (W w0 s w : World) (K G : List Nat) (a x : Nat) (L : List Int) (v1 v2 : Value) (l1 l2 : List Int) : Prop where
  sp : SpK Sp W w0 w (K ++ v1.ownBlock.toList ++ v2.ownBlock.toList) a L
  r1 : OwnI w s.heap.size v1 l1
  r2 : OwnI w s.heap.size v2 l2
  ref : RSp W.heap.size w G x L
  gk : ∀ g ∈ G, g ∈ K
  off : ∀ g, v1.ownBlock = some g → v2.ownBlock ≠ some g
  kl : ∀ k ∈ K, k < s.heap.size
  stay : Stay K s w
  base : w0.heap.size ≤ s.heap.size ∧ s.heap.size ≤ w.heap.size
theorem Tld.then_ {Sp : World → List Nat → Nat → List Int → Prop} {W w0 s w w' : World} {K G : List Nat} {a x : Nat} {L : List Int} {v1 v2 : Value} {l1 l2 : List Int} (P : P13 W Sp) (h : Tld Sp W w0 s w K G a x L v1 v2 l1 l2) (hb : Below w.heap.size w w') : Tld Sp W w0 s w' K G a x L v1 v2 l1 l2 :=
  ⟨h.sp.then_ P hb, h.r1.then_ hb, h.r2.then_ hb, h.ref.keep fun b hb' => hb.block b (h.ref.lt b hb').2, h.gk, h.off, h.kl, h.stay.trans fun k hk => hb.block k (Nat.lt_of_lt_of_le (h.kl k hk) h.base.2), h.base.1, Nat.le_trans h.base.2 hb.size⟩
theorem Tld.grew1 {Sp : World → List Nat → Nat → List Int → Prop} {W w0 s w w' : World} {K G : List Nat} {a x : Nat} {L : List Int} {v1 v1' v2 : Value} {l1 l1' l2 : List Int} (P : P13 W Sp) (hW : W.heap.size ≤ w0.heap.size) (h : Tld Sp W w0 s w K G a x L v1 v2 l1 l2) (g : GrewI s.heap.size w w' v1 v1' l1') : Tld Sp W w0 s w' K G a x L v1' v2 l1' l2 := by
  have hne : ∀ k ∈ K, v1.ownBlock ≠ some k := fun k hk e => by have := (h.r1.block k e).1; have := h.kl k hk; omega
  have hk : ∀ k ∈ K, w'.heap[k]? = w.heap[k]? := fun k hk => g.grow.block k (Nat.lt_of_lt_of_le (h.kl k hk) h.base.2) (fun e => hne k hk e.symm)
  refine ⟨?_, g.own, h.r2.grown g.grow (fun b hb e => h.off b e hb), h.ref.keep fun b hb => hk b (h.gk b hb), h.gk, fun b hb e => ?_, h.kl, h.stay.trans hk, h.base.1, Nat.le_trans h.base.2 g.size⟩
  · refine h.sp.grown P hW g.grow (fun b e => ⟨by simp [e], Nat.le_trans h.base.1 (h.r1.block b e).1⟩) fun k hk => ?_
    rcases List.mem_append.1 hk with hk | hk
    · rcases List.mem_append.1 hk with hk | hk
      · exact .inl (by simp [hk])
      · have hk' : v1'.ownBlock = some k := by simpa using hk
        rcases g.at_ with h1 | ⟨q, h1, h2⟩
        · exact .inl (by simp [← h1, hk'])
        · rw [h1] at hk'
          injection hk' with hk'
          subst hk'
          exact .inr ⟨h2, (g.own.block q h1).2⟩
    · exact .inl (by simp only [List.mem_append]; exact .inr hk)
  · rcases g.at_ with h1 | ⟨q, h1, h2⟩
    · exact h.off b (h1 ▸ hb) e
    · rw [h1] at hb
      injection hb with hb
      have := (h.r2.block b e).2
      omega
theorem Tld.swap {Sp : World → List Nat → Nat → List Int → Prop} {W w0 s w : World} {K G : List Nat} {a x : Nat} {L : List Int} {v1 v2 : Value} {l1 l2 : List Int} (h : Tld Sp W w0 s w K G a x L v1 v2 l1 l2) : Tld Sp W w0 s w K G a x L v2 v1 l2 l1 :=
  ⟨h.sp.fewer (fun k hk => by simp only [List.mem_append] at hk ⊢; rcases hk with (h1 | h1) | h1; exact .inl (.inl h1); exact .inr h1; exact .inl (.inr h1)), h.r2, h.r1, h.ref, h.gk, fun g e1 e2 => h.off g e2 e1, h.kl, h.stay, h.base⟩
theorem Tld.grew2 {Sp : World → List Nat → Nat → List Int → Prop} {W w0 s w w' : World} {K G : List Nat} {a x : Nat} {L : List Int} {v1 v2 v2' : Value} {l1 l2 l2' : List Int} (P : P13 W Sp) (hW : W.heap.size ≤ w0.heap.size) (h : Tld Sp W w0 s w K G a x L v1 v2 l1 l2) (g : GrewI s.heap.size w w' v2 v2' l2') : Tld Sp W w0 s w' K G a x L v1 v2' l1 l2' :=
  (h.swap.grew1 P hW g).swap
end Go.Proofs.Yteoekfmjlmpmgaa
