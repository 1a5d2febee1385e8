/- A space beside rows, and beside another space. No statement is proved here. -/
import Derived.Test.YteoekfmjlmpmgaaHOps
namespace Go.Proofs.Yteoekfmjlmpmgaa
open Go.RowKit
set_option maxRecDepth 100000

/-- These blocks stay as they are. -/
def Stay (K : List Nat) (w w' : World) : Prop := ∀ k ∈ K, w'.heap[k]? = w.heap[k]?
theorem Stay.refl (K : List Nat) (w : World) : Stay K w w := fun _ _ => rfl
theorem Stay.trans {K : List Nat} {a b c : World} (h : Stay K a b) (k : Stay K b c) : Stay K a c := fun i hi => (k i hi).trans (h i hi)
theorem OwnI.stay {w w' : World} {B : Nat} {v : Value} {l : List Int} {K : List Nat} (h : OwnI w B v l) (hs : Stay K w w') (hk : ∀ g, v.ownBlock = some g → g ∈ K) : OwnI w' B v l := h.keep fun g hg => hs g (hk g hg)
/-- A space whose blocks are new since w0, and lie off the blocks of K. -/
structure SpK (Sp : World → List Nat → Nat → List Int → Prop) (W w0 w : World) (K : List Nat) (a : Nat) (L : List Int) : Prop where
  sp : ∃ F, Sp w F a L ∧ (∀ b ∈ F, w0.heap.size ≤ b) ∧ ∀ b ∈ F, b ∉ K
  lt : ∀ k ∈ K, k < w.heap.size
  low : Below w0.heap.size w0 w
  top : Below W.heap.size W w
theorem SpAt.off {Sp : World → List Nat → Nat → List Int → Prop} {W w0 w : World} {a : Nat} {L : List Int} (h : SpAt Sp W w0 w a L) : SpK Sp W w0 w [] a L := by
  obtain ⟨F, h1, h2⟩ := h.sp
  exact ⟨⟨F, h1, h2, fun _ _ h => by cases h⟩, fun _ h => (by cases h), h.low, h.top⟩
theorem SpK.at_ {Sp : World → List Nat → Nat → List Int → Prop} {W w0 w : World} {K : List Nat} {a : Nat} {L : List Int} (h : SpK Sp W w0 w K a L) : SpAt Sp W w0 w a L := by
  obtain ⟨F, h1, h2, -⟩ := h.sp
  exact ⟨⟨F, h1, h2⟩, h.low, h.top⟩
theorem SpK.fewer {Sp : World → List Nat → Nat → List Int → Prop} {W w0 w : World} {K K' : List Nat} {a : Nat} {L : List Int} (h : SpK Sp W w0 w K a L) (hk : ∀ k ∈ K', k ∈ K) : SpK Sp W w0 w K' a L := by
  obtain ⟨F, h1, h2, h3⟩ := h.sp
  exact ⟨⟨F, h1, h2, fun b hb hn => h3 b hb (hk b hn)⟩, fun k hk' => h.lt k (hk k hk'), h.low, h.top⟩
/-- A call on a space. -/
theorem SpK.stepS {Sp : World → List Nat → Nat → List Int → Prop} {W w0 w : World} {K : List Nat} {a : Nat} {L L' : List Int} {r : Value} {f : FuncId} {args : Array Value} (h : SpK Sp W w0 w K a L) (hW : W.heap.size ≤ w0.heap.size)
    (c : ∀ F, Sp w F a L → Calls Try.prog f args w (SpTo Sp w F a L' r)) : Calls Try.prog f args w fun e w' => e = .returned r ∧ SpK Sp W w0 w' K a L' ∧ Stay K w w' ∧ w.heap.size ≤ w'.heap.size := by
  obtain ⟨F, h1, h2, h3⟩ := h.sp
  refine (c F h1).mono fun e w' k => ?_
  obtain ⟨he, ho, F', k1, k2⟩ := k
  refine ⟨he, ⟨⟨F', k1, fun b hb => ?_, fun b hb hn => ?_⟩, fun k hk => Nat.lt_of_lt_of_le (h.lt k hk) ho.size, Only.lower h.low ho h2 h.low.size, Only.lower h.top ho (fun b hb => Nat.le_trans hW (h2 b hb)) h.top.size⟩, fun k hk => ho.block k (h.lt k hk) fun hn => h3 k hn hk, ho.size⟩
  · rcases k2 b hb with k3 | k3
    · exact h2 b k3
    · exact Nat.le_trans h.low.size k3
  · rcases k2 b hb with k3 | k3
    · exact h3 b k3 hn
    · have := h.lt b hn; omega
theorem SpK.step {Sp : World → List Nat → Nat → List Int → Prop} {W w0 w : World} {K : List Nat} {a : Nat} {L L' : List Int} {r : Value} {f : FuncId} {args : Array Value} (h : SpK Sp W w0 w K a L) (hW : W.heap.size ≤ w0.heap.size)
    (c : ∀ F, Sp w F a L → Calls Try.prog f args w (SpTo Sp w F a L' r)) : Calls Try.prog f args w fun e w' => e = .returned r ∧ SpK Sp W w0 w' K a L' ∧ Stay K w w' :=
  (h.stepS hW c).mono fun _ _ k => ⟨k.1, k.2.1, k.2.2.1⟩
theorem SpK.then_ {Sp : World → List Nat → Nat → List Int → Prop} {W w0 w w' : World} {K : List Nat} {a : Nat} {L : List Int} (P : P13 W Sp) (h : SpK Sp W w0 w K a L) (hb : Below w.heap.size w w') : SpK Sp W w0 w' K a L := by
  obtain ⟨F, h1, h2, h3⟩ := h.sp
  exact ⟨⟨F, P.below h1 hb, h2, h3⟩, fun k hk => Nat.lt_of_lt_of_le (h.lt k hk) hb.size, below_then h.low hb, below_then h.top hb⟩
/-- A row of K is written, or grows. -/
theorem SpK.grown {Sp : World → List Nat → Nat → List Int → Prop} {W w0 w w' : World} {K K' : List Nat} {a : Nat} {L : List Int} {row : Option Nat} (P : P13 W Sp) (h : SpK Sp W w0 w K a L) (hW : W.heap.size ≤ w0.heap.size) (hg : w.grownBy w' row) (hr : ∀ g, row = some g → g ∈ K ∧ w0.heap.size ≤ g)
    (hk : ∀ k ∈ K', k ∈ K ∨ w.heap.size ≤ k ∧ k < w'.heap.size) : SpK Sp W w0 w' K' a L := by
  obtain ⟨F, h1, h2, h3⟩ := h.sp
  have ho : Only row.toList w w' := only_grow hg
  have hr2 : ∀ b ∈ row.toList, b ∈ K ∧ w0.heap.size ≤ b := fun b hb => hr b (by simpa using hb)
  refine ⟨⟨F, P.keep h1 fun b hb => ho.block b (P.lt h1 b hb).2 fun hn => h3 b hb (hr2 b hn).1, h2, fun b hb hn => ?_⟩, fun k hk' => ?_, Only.lower h.low ho (fun b hb => (hr2 b hb).2) h.low.size, Only.lower h.top ho (fun b hb => Nat.le_trans hW (hr2 b hb).2) h.top.size⟩
  · rcases hk b hn with h4 | h4
    · exact h3 b hb h4
    · have := (P.lt h1 b hb).2; omega
  · rcases hk k hk' with h4 | h4
    · exact Nat.lt_of_lt_of_le (h.lt k h4) ho.size
    · exact h4.2
/-- Used: two rows, which lie off the space, and off each other. -/
theorem SpK.used {Sp : World → List Nat → Nat → List Int → Prop} {W w0 w : World} {K : List Nat} {a : Nat} {L : List Int} (P : P13 W Sp) (h : SpK Sp W w0 w K a L) (hW : W.heap.size ≤ w0.heap.size) :
    Calls Try.prog 16 #[.pointer (some ⟨a, 0, none⟩)] w fun e w' => ∃ v1 v2, e = .returned (.tuple #[v1, v2]) ∧ SpK Sp W w0 w' (K ++ v1.ownBlock.toList ++ v2.ownBlock.toList) a L ∧ Stay K w w' ∧
      OwnI w' w.heap.size v1 (areL L 1) ∧ OwnI w' w.heap.size v2 (areL L 2) ∧ (∀ g, v1.ownBlock = some g → v2.ownBlock ≠ some g) ∧ w.heap.size ≤ w'.heap.size := by
  obtain ⟨F, h1, h2, h3⟩ := h.sp
  refine (P.used F a L w h.top h1).mono fun e w' k => ?_
  obtain ⟨v1, v2, F', he, ho, k1, k2, o1, o2, k3, k4⟩ := k
  refine ⟨v1, v2, he, ⟨⟨F', k1, fun b hb => ?_, fun b hb hn => ?_⟩, fun k hk => ?_, Only.lower h.low ho h2 h.low.size, Only.lower h.top ho (fun b hb => Nat.le_trans hW (h2 b hb)) h.top.size⟩, fun k hk => ho.block k (h.lt k hk) fun hn => h3 k hn hk, o1, o2, fun g hg => (k3 g hg).1, ho.size⟩
  · rcases k2 b hb with k3 | k3
    · exact h2 b k3
    · exact Nat.le_trans h.low.size k3
  · rcases List.mem_append.1 hn with hn | hn
    · rcases List.mem_append.1 hn with hn | hn
      · rcases k2 b hb with k5 | k5
        · exact h3 b k5 hn
        · have := h.lt b hn; omega
      · exact (k3 b (by simpa using hn)).2 hb
    · exact k4 b (by simpa using hn) hb
  · rcases List.mem_append.1 hk with hn | hn
    · rcases List.mem_append.1 hn with hn | hn
      · exact Nat.lt_of_lt_of_le (h.lt k hn) ho.size
      · exact (o1.block k (by simpa using hn)).2
    · exact (o2.block k (by simpa using hn)).2
/-- Two spaces. -/
structure Sp2 (Sp : World → List Nat → Nat → List Int → Prop) (W w0 w : World) (a b : Nat) (La Lb : List Int) : Prop where
  sp : ∃ Fa Fb, Sp w Fa a La ∧ Sp w Fb b Lb ∧ (∀ x ∈ Fa, w0.heap.size ≤ x) ∧ (∀ x ∈ Fb, w0.heap.size ≤ x) ∧ ∀ x ∈ Fa, x ∉ Fb
  low : Below w0.heap.size w0 w
  top : Below W.heap.size W w
theorem Sp2.swap {Sp : World → List Nat → Nat → List Int → Prop} {W w0 w : World} {a b : Nat} {La Lb : List Int} (h : Sp2 Sp W w0 w a b La Lb) : Sp2 Sp W w0 w b a Lb La := by
  obtain ⟨Fa, Fb, h1, h2, h3, h4, h5⟩ := h.sp
  exact ⟨⟨Fb, Fa, h2, h1, h4, h3, fun x hx hn => h5 x hn hx⟩, h.low, h.top⟩
theorem SpAt.two {Sp : World → List Nat → Nat → List Int → Prop} {W w0 w w' : World} {a b : Nat} {La Lb : List Int} (P : P13 W Sp) (h : SpAt Sp W w0 w a La) (k : SpAt Sp W w w' b Lb) : Sp2 Sp W w0 w' a b La Lb := by
  obtain ⟨Fa, h1, h2⟩ := h.sp
  obtain ⟨Fb, k1, k2⟩ := k.sp
  exact ⟨⟨Fa, Fb, P.below h1 k.low, k1, h2, fun x hx => Nat.le_trans h.low.size (k2 x hx), fun x hx hn => by have := (P.lt h1 x hx).2; have := k2 x hn; omega⟩, below_then h.low k.low, k.top⟩
theorem Sp2.left {Sp : World → List Nat → Nat → List Int → Prop} {W w0 w : World} {a b : Nat} {La Lb L' : List Int} {r : Value} {f : FuncId} {args : Array Value} (P : P13 W Sp) (h : Sp2 Sp W w0 w a b La Lb) (hW : W.heap.size ≤ w0.heap.size)
    (c : ∀ F, Sp w F a La → Calls Try.prog f args w (SpTo Sp w F a L' r)) : Calls Try.prog f args w fun e w' => e = .returned r ∧ Sp2 Sp W w0 w' a b L' Lb := by
  obtain ⟨Fa, Fb, h1, h2, h3, h4, h5⟩ := h.sp
  refine (c Fa h1).mono fun e w' k => ?_
  obtain ⟨he, ho, F', k1, k2⟩ := k
  refine ⟨he, ⟨F', Fb, k1, P.keep h2 fun x hx => ho.block x (P.lt h2 x hx).2 fun hn => h5 x hn hx, fun x hx => ?_, h4, fun x hx hn => ?_⟩, Only.lower h.low ho h3 h.low.size, Only.lower h.top ho (fun b hb => Nat.le_trans hW (h3 b hb)) h.top.size⟩
  · rcases k2 x hx with k3 | k3
    · exact h3 x k3
    · exact Nat.le_trans h.low.size k3
  · rcases k2 x hx with k3 | k3
    · exact h5 x k3 hn
    · have := (P.lt h2 x hn).2; omega
theorem Sp2.right {Sp : World → List Nat → Nat → List Int → Prop} {W w0 w : World} {a b : Nat} {La Lb L' : List Int} {r : Value} {f : FuncId} {args : Array Value} (P : P13 W Sp) (h : Sp2 Sp W w0 w a b La Lb) (hW : W.heap.size ≤ w0.heap.size)
    (c : ∀ F, Sp w F b Lb → Calls Try.prog f args w (SpTo Sp w F b L' r)) : Calls Try.prog f args w fun e w' => e = .returned r ∧ Sp2 Sp W w0 w' a b La L' :=
  (h.swap.left P hW c).mono fun _ _ k => ⟨k.1, k.2.swap⟩
end Go.Proofs.Yteoekfmjlmpmgaa
