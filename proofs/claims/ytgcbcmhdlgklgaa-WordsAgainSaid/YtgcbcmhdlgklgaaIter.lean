/- A loop over an iterator, where the iterator and the loop's body each change blocks of their own: no statement is proved here. -/
import Derived.RangeFuncLeaves
import Derived.RangeFuncCalls
import Derived.RangeFuncBound
import Derived.WalkKit
import Derived.OwnWalkIn
import Derived.TacticsInMore
import Derived.LoopNIn
import Derived.LoopIn
import Derived.Test.YtgcbcmhdlgklgaaProg
namespace Go.Proofs.Ytgcbcmhdlgklgaa
open Go Go.RowKit

/-- What a round of the loop's body may do: it changes its own blocks (Th) and new ones. -/
structure Rnd (Th : World → Nat → Prop) (W W' : World) : Prop where
  os : W'.os = W.os
  tape : W'.tape = W.tape
  output : W'.output = W.output
  size : W.heap.size ≤ W'.heap.size
  same : ∀ k, k < W.heap.size → ¬ Th W k → W'.heap[k]? = W.heap[k]?
  own : ∀ k, Th W' k → Th W k ∨ W.heap.size ≤ k
/-- What an iterator that began when the heap had n blocks may do: it changes blocks that are newer and none of the body's. -/
structure Itr (n : Nat) (Th : World → Nat → Prop) (W W' : World) : Prop where
  os : W'.os = W.os
  tape : W'.tape = W.tape
  output : W'.output = W.output
  size : W.heap.size ≤ W'.heap.size
  same : ∀ k, k < W.heap.size → (k < n ∨ Th W k) → W'.heap[k]? = W.heap[k]?
/-- The body's own blocks don't hang on what the iterator does. -/
def Stab (n : Nat) (Th : World → Nat → Prop) : Prop := ∀ A B, n ≤ A.heap.size → Itr n Th A B → ∀ k, Th B k ↔ Th A k
theorem Itr.refl (n : Nat) (Th : World → Nat → Prop) (W : World) : Itr n Th W W := ⟨rfl, rfl, rfl, Nat.le_refl _, fun _ _ _ => rfl⟩
theorem Itr.of_below {n : Nat} {Th : World → Nat → Prop} {W W' : World} (h : Below W.heap.size W W') : Itr n Th W W' := ⟨h.os, h.tape, h.output, h.size, fun k hk _ => h.block k hk⟩
theorem Itr.below {n m : Nat} {Th : World → Nat → Prop} {A W W' : World} (h : Itr n Th W W') (hm : m ≤ n) (hw : m ≤ A.heap.size) (hb : Below m A W) : Below m A W' :=
  hb.trans ⟨h.os, h.tape, h.output, h.size, fun k hk => h.same k (by have := hb.size; omega) (.inl (by omega))⟩
theorem Rnd.refl (Th : World → Nat → Prop) (W : World) : Rnd Th W W := ⟨rfl, rfl, rfl, Nat.le_refl _, fun _ _ _ => rfl, fun _ h => .inl h⟩
theorem Rnd.trans {Th : World → Nat → Prop} {A B C : World} (h : Rnd Th A B) (k : Rnd Th B C) : Rnd Th A C :=
  ⟨k.os.trans h.os, k.tape.trans h.tape, k.output.trans h.output, Nat.le_trans h.size k.size, fun i hi hn => (k.same i (Nat.lt_of_lt_of_le hi h.size) (fun ht => by exact (h.own i ht).elim hn (fun h1 => by omega))).trans (h.same i hi hn), fun i ht => by
    rcases k.own i ht with h1 | h1
    · exact h.own i h1
    · have := h.size; exact .inr (by omega)⟩
/-- A round, and then the iterator's own work from n on, seen from a world of n blocks at most. -/
theorem Rnd.itr {n : Nat} {Th : World → Nat → Prop} {A B C : World} (h : Rnd Th A B) (k : Itr n Th B C) (st : Stab n Th) (hA : A.heap.size = n) : Rnd Th A C :=
  ⟨k.os.trans h.os, k.tape.trans h.tape, k.output.trans h.output, Nat.le_trans h.size k.size, fun i hi hn => (k.same i (Nat.lt_of_lt_of_le hi h.size) (.inl (by omega))).trans (h.same i hi hn), fun i ht => h.own i ((st B C (by have := h.size; omega) k i).1 ht)⟩
theorem Rnd.below {Th : World → Nat → Prop} {m : Nat} {A W W' : World} (h : Rnd Th W W') (hw : m ≤ A.heap.size) (hb : Below m A W) (ht : ∀ k, Th W k → m ≤ k) : Below m A W' :=
  hb.trans ⟨h.os, h.tape, h.output, h.size, fun k hk => h.same k (by have := hb.size; omega) (fun hc => by have := ht k hc; omega)⟩
theorem Rnd.of_below {Th : World → Nat → Prop} {W W' : World} (h : Below W.heap.size W W') (st : ∀ k, Th W' k → Th W k ∨ W.heap.size ≤ k) : Rnd Th W W' := ⟨h.os, h.tape, h.output, h.size, fun k hk _ => h.block k hk, st⟩

/-- What an iterator tells, one after another, to whatever body. -/
def SeqT {α : Type} (P : Program) (Arg : Nat → Prop) (g : Nat) (lb : Array Value) (encs : α → Array Value) (L : List α) (w : World) : Prop :=
  ∀ (l : Nat) (Th : World → Nat → Prop) (J Jx : List α → World → Prop) (W : World), Below w.heap.size w W → Stab W.heap.size Th →
    (∀ pre A B, W.heap.size ≤ A.heap.size → J pre A → Itr W.heap.size Th A B → J pre B) → (∀ pre A B, W.heap.size ≤ A.heap.size → Jx pre A → Itr W.heap.size Th A B → Jx pre B) →
    (∀ pre A, J pre A → ∀ k, Th A k → ¬ Arg k ∧ k < A.heap.size) →
    (∀ pre x A, J pre A → pre ++ [x] <+: L → YieldAt Fence.wide 0 P l (encs x) A fun e B =>
      Rnd Th A B ∧ ((e = .returned (.bool true) ∧ J (pre ++ [x]) B) ∨ (e = .returned (.bool false) ∧ Jx (pre ++ [x]) B))) →
    J [] W →
    Calls P g (#[.func (.yield l) #[] #[]] ++ lb) W fun e W' => (∃ v, e = .returned v) ∧ Rnd Th W W' ∧ (J L W' ∨ ∃ pre, pre <+: L ∧ Jx pre W')

/-- What an iterator is handed. -/
structure Told {α : Type} (P : Program) (Arg : Nat → Prop) (encs : α → Array Value) (L : List α) (w : World) (l : Nat) (Th : World → Nat → Prop) (J Jx : List α → World → Prop) (W : World) : Prop where
  below : Below w.heap.size w W
  stab : Stab W.heap.size Th
  keep : ∀ pre A B, W.heap.size ≤ A.heap.size → J pre A → Itr W.heap.size Th A B → J pre B
  keepx : ∀ pre A B, W.heap.size ≤ A.heap.size → Jx pre A → Itr W.heap.size Th A B → Jx pre B
  lt : ∀ pre A, J pre A → ∀ k, Th A k → ¬ Arg k ∧ k < A.heap.size
  yields : ∀ pre x A, J pre A → pre ++ [x] <+: L → YieldAt Fence.wide 0 P l (encs x) A fun e B =>
      Rnd Th A B ∧ ((e = .returned (.bool true) ∧ J (pre ++ [x]) B) ∨ (e = .returned (.bool false) ∧ Jx (pre ++ [x]) B))
  start : J [] W
theorem SeqT.of {α : Type} {P : Program} {Arg : Nat → Prop} {g : Nat} {lb : Array Value} {encs : α → Array Value} {L : List α} {w : World}
    (h : ∀ l Th J Jx W, Told P Arg encs L w l Th J Jx W → Calls P g (#[.func (.yield l) #[] #[]] ++ lb) W fun e W' => (∃ v, e = .returned v) ∧ Rnd Th W W' ∧ (J L W' ∨ ∃ pre, pre <+: L ∧ Jx pre W')) : SeqT P Arg g lb encs L w :=
  fun l Th J Jx W h1 h2 h3 h4 h5 h6 h7 => h l Th J Jx W ⟨h1, h2, h3, h4, h5, h6, h7⟩
/-- How far an iterator has come. -/
structure Sofar (Arg : Nat → Prop) (w : World) (Th : World → Nat → Prop) (W wr : World) : Prop where
  rnd : Rnd Th W wr
  kept : ∀ k, Arg k → k < w.heap.size → wr.heap[k]? = w.heap[k]?
section
variable {α : Type} {P : Program} {Arg : Nat → Prop} {encs : α → Array Value} {L : List α} {w : World} {l : Nat} {Th : World → Nat → Prop} {J Jx : List α → World → Prop} {W : World}
theorem Told.sofar (T : Told P Arg encs L w l Th J Jx W) : Sofar Arg w Th W W := ⟨Rnd.refl _ _, fun k _ h => T.below.block k h⟩
theorem Sofar.size {W' : World} (h : Sofar Arg w Th W W') : W.heap.size ≤ W'.heap.size := h.rnd.size
/-- The iterator's own step. -/
theorem Told.own (T : Told P Arg encs L w l Th J Jx W) {pre : List α} {A B : World} (h : Sofar Arg w Th W A) (j : J pre A) (i : Itr W.heap.size Th A B) : Sofar Arg w Th W B ∧ J pre B ∧ ∀ k, ¬ Th A k → ¬ Th B k :=
  ⟨⟨h.rnd.itr i T.stab rfl, fun k hk hl => (i.same k (by have := T.below.size; have := h.rnd.size; omega) (.inl (by have := T.below.size; omega))).trans (h.kept k hk hl)⟩, T.keep _ _ _ h.rnd.size j i, fun k hk hc => hk ((T.stab _ _ h.rnd.size i k).1 hc)⟩
theorem Told.ownx (T : Told P Arg encs L w l Th J Jx W) {pre : List α} {A B : World} (h : Sofar Arg w Th W A) (j : Jx pre A) (i : Itr W.heap.size Th A B) : Sofar Arg w Th W B ∧ Jx pre B :=
  ⟨⟨h.rnd.itr i T.stab rfl, fun k hk hl => (i.same k (by have := T.below.size; have := h.rnd.size; omega) (.inl (by have := T.below.size; omega))).trans (h.kept k hk hl)⟩, T.keepx _ _ _ h.rnd.size j i⟩
/-- A round of the body's. -/
theorem Told.round (T : Told P Arg encs L w l Th J Jx W) {pre : List α} {A B : World} (h : Sofar Arg w Th W A) (j : J pre A) (r : Rnd Th A B) : Sofar Arg w Th W B ∧ ∀ k, k < A.heap.size → ¬ Th A k → ¬ Th B k ∧ B.heap[k]? = A.heap[k]? :=
  ⟨⟨h.rnd.trans r, fun k hk hl => (r.same k (by have := T.below.size; have := h.rnd.size; omega) (fun hc => (T.lt _ _ j k hc).1 hk)).trans (h.kept k hk hl)⟩, fun k hk hn => ⟨fun hc => (r.own k hc).elim hn (fun h => by omega), r.same k hk hn⟩⟩
/-- What is new is the iterator's. -/
theorem Told.fresh (T : Told P Arg encs L w l Th J Jx W) {pre : List α} {A : World} (j : J pre A) {k : Nat} (hk : A.heap.size ≤ k) : ¬ Th A k := fun hc => by have := (T.lt _ _ j k hc).2; omega
end
theorem yield_wide {m m' : Nat} {P : Program} {l : Nat} {args : Array Value} {W : World} {R : Ending → World → Prop} (h : YieldAt Fence.wide m P l args W R) : YieldAt Fence.wide m' P l args W R := by
  obtain ⟨fn, tmps, assign, body, hy, hR⟩ := h
  exact ⟨fn, tmps, assign, body, hy, hR.1, fun c cs _ => hR.2 c cs (room_wide _)⟩

/-- How the body of a round may be left. -/
def tellPost {α : Type} (Th : World → Nat → Prop) (I : List α → World → Prop) (Ix : Code → List α → World → Prop) (xs : List α) (W : World) : Exit → Act → World → Prop
  | .normal, _, W' => Rnd Th W W' ∧ I xs W'
  | .ret, _, W' => Rnd Th W W' ∧ Ix .ret xs W'
  | .exit id, _, W' => Rnd Th W W' ∧ Ix (.exit id) xs W'
  | .goto t, _, W' => Rnd Th W W' ∧ Ix (.goto t) xs W'
  | .panic _, _, _ => False
  | .outgrown, _, _ => False

theorem itr_setCell {n : Nat} {Th : World → Nat → Prop} {W : World} {p : Addr} (v : Value) (hn : n ≤ p.block) (ht : ¬ Th W p.block) : Itr n Th W (W.setCell p v) :=
  ⟨rfl, rfl, rfl, by simp [World.setCell], fun k _ h => Below.heap_setCell _ _ _ _ (fun e => by subst e; exact h.elim (fun h => by omega) ht)⟩
theorem itr_drew (n : Nat) (Th : World → Nat → Prop) (W : World) : Itr n Th W W.drew := .of_below (Below.drew (Below.refl _ W))
theorem itr_putObj {n : Nat} {Th : World → Nat → Prop} {W : World} {l : Nat} (o : Obj) (hn : n ≤ l) (ht : ¬ Th W l) : Itr n Th W (W.putObj l o) :=
  ⟨rfl, rfl, rfl, by simp, fun k _ h => World.putObj_heap_other (fun e => by subst e; exact h.elim (fun h => by omega) ht)⟩

/-- The loop. -/
theorem wp_tell {α : Type} {P : Program} {m : Nat} {g : Operand} {ps : Array Tmp} {assign body : Code} {Q : Exit → Act → World → Prop} {a : Act} {w : World}
    (h1 : 1 ≤ m) {gf : Nat} {lb : Array Value} (hg : a.eval g = .func (.func gf) #[] lb) (eg : ∀ args w, (callFunc gf args).run P w = .ok (.enter gf args) w)
    {Arg : Nat → Prop} {encs : α → Array Value} {L : List α} {w0 : World} (hseq : SeqT P Arg gf lb encs L w0) (harg : ∀ k, Arg k → k < w0.heap.size) (hb0 : Below w0.heap.size w0 w) (hps : ∀ x, (encs x).size = ps.size)
    (Th : World → Nat → Prop) (st : Stab w.heap.size Th) (I : List α → World → Prop) (Ix : Code → List α → World → Prop)
    (hI : ∀ pre A B, w.heap.size ≤ A.heap.size → I pre A → Itr w.heap.size Th A B → I pre B) (hIx : ∀ c pre A B, w.heap.size ≤ A.heap.size → Ix c pre A → Itr w.heap.size Th A B → Ix c pre B)
    (hlt : ∀ pre A, I pre A → ∀ k, Th A k → ¬ Arg k ∧ k < A.heap.size) (h0 : I [] w)
    (Ax : α → Act → World → Prop) (hAx : ∀ x a' A B, w.heap.size ≤ A.heap.size → Ax x a' A → (∀ k, k < A.heap.size → (∃ cs t f, A.heap[k]? = some (.cells cs t f)) → B.heap[k]? = A.heap[k]?) → Ax x a' B)
    (hassign : ∀ (l : Nat) (pre : List α) (x : α) (W : World) (K : Act → World → Prop), w.heap.size ≤ W.heap.size → I pre W → (∀ a' W', Below W.heap.size W W' → Ax x a' W' → K a' W') →
      assign.wpIn (Fence.wide.inRound l) (m - 1 - 1) P (Exit.then K (fun _ _ _ => False)) { tmps := (ps.zip (encs x)).foldl (fun t (p, v) => t.setIfInBounds p v) a.tmps, defers := [] } W)
    (hbody : ∀ (l : Nat) (pre : List α) (x : α) (a' : Act) (W : World), w.heap.size + 2 ≤ W.heap.size → I pre W → Ax x a' W → pre ++ [x] <+: L → body.wpIn (Fence.wide.inRound l) (m - 1 - 1) P (tellPost Th I Ix (pre ++ [x]) W) a' W)
    (hdone : ∀ (D : Nat) (W : World), D = w.heap.size → I L W → Rnd Th w W → ¬ Th W D → W.heap[D]? = some (.deferred (some [])) → Q .normal { a with defers := { target := .collected D, args := #[] } :: a.defers } W)
    (hstop : ∀ (D : Nat) (c : Code) (pre : List α) (W : World), D = w.heap.size → pre <+: L → Ix c pre W → Rnd Th w W → ¬ Th W D → W.heap[D]? = some (.deferred (some [])) → c.wpIn Fence.wide m P Q { a with defers := { target := .collected D, args := #[] } :: a.defers } W) :
    (Code.rangeFunc g ps assign body).wpIn Fence.wide m P Q a w := by
  refine wpIn_rangeFunc ?_
  intro fn _
  obtain ⟨rec, hrec⟩ : ∃ rec : LoopState → Option Code → Loop, rec = fun s pe => { state := s, pending := pe, fn, tmps := a.tmps, params := ps, assign, body, defers := w.heap.size } := ⟨_, rfl⟩
  obtain ⟨W1, hW1⟩ : ∃ W1, (w.alloc (.deferred (some []))).alloc (.loop (rec .ready none)) = W1 := ⟨_, rfl⟩
  have hz1 : W1.heap.size = w.heap.size + 2 := by rw [← hW1]; simp
  have bw : Below w.heap.size w W1 := by rw [← hW1]; exact ((Below.refl _ w).alloc (Nat.le_refl _) _).alloc (by simp) _
  have hL1 : W1.heap[w.heap.size + 1]? = some (.loop (rec .ready none)) := by
    rw [← hW1]; have := World.alloc_heap_new (w.alloc (.deferred (some []))) (.loop (rec .ready none)); rwa [World.size_alloc] at this
  have hD1 : W1.heap[w.heap.size]? = some (.deferred (some [])) := by
    rw [← hW1]; exact (Below.heap_alloc _ _ _ (by simp)).trans (World.alloc_heap_new w _)
  have i1 : Itr w.heap.size Th w W1 := .of_below bw
  have hI1 : I [] W1 := hI _ _ _ (Nat.le_refl _) h0 i1
  have ht1 : ∀ k, Th W1 k → k < w.heap.size := fun k hk => (hlt _ _ h0 k ((st _ _ (Nat.le_refl _) i1 k).1 hk)).2
  have hb1 : Below w0.heap.size w0 W1 := hb0.trans (bw.mono hb0.size)
  -- the body's blocks and the record
  let Tl : World → Nat → Prop := fun W k => k = w.heap.size + 1 ∨ Th W k
  have toI : ∀ {A B}, Itr W1.heap.size Tl A B → Itr w.heap.size Th A B := fun h => ⟨h.os, h.tape, h.output, h.size, fun k hk hc => h.same k hk (hc.imp (fun h => by omega) .inr)⟩
  let J : List α → World → Prop := fun pre W => I pre W ∧ W.heap[w.heap.size + 1]? = some (.loop (rec .ready none)) ∧ W.heap[w.heap.size]? = some (.deferred (some [])) ∧ ¬ Th W w.heap.size ∧ ¬ Th W (w.heap.size + 1)
  let Jx : List α → World → Prop := fun pre W => (∃ c, Ix c pre W ∧ W.heap[w.heap.size + 1]? = some (.loop (rec .done (some c)))) ∧ W.heap[w.heap.size]? = some (.deferred (some [])) ∧ ¬ Th W w.heap.size ∧ ¬ Th W (w.heap.size + 1)
  have keepD : ∀ {A B : World} {o : Obj}, W1.heap.size ≤ A.heap.size → Itr W1.heap.size Tl A B → ∀ k, k < w.heap.size + 2 → A.heap[k]? = some o → B.heap[k]? = some o := fun hz h k hk ho => (h.same k (by omega) (.inl (by omega))).trans ho
  have nT : ∀ {A B : World}, W1.heap.size ≤ A.heap.size → Itr W1.heap.size Tl A B → ∀ k, ¬ Th A k → ¬ Th B k := fun hz h k hn hc => hn ((st _ _ (by omega) (toI h) k).1 hc)
  have stl : Stab W1.heap.size Tl := fun A B hz h k => by
    constructor
    · rintro (e | h1)
      · exact .inl e
      · exact .inr ((st _ _ (by omega) (toI h) k).1 h1)
    · rintro (e | h1)
      · exact .inl e
      · exact .inr ((st _ _ (by omega) (toI h) k).2 h1)
  refine ⟨w.heap.size + 1, [{ target := .collected w.heap.size, args := #[] }], W1, { target := .fn (.func gf) lb, args := #[.func (.yield (w.heap.size + 1)) #[] #[]] }, W1, gf,
    #[.func (.yield (w.heap.size + 1)) #[] #[]] ++ lb, W1, ?_, ?_, fun _ _ => trivial, ?_, fun _ => h1, ?_⟩
  · rw [← hW1, hrec]; exact run_enterLoop_outer _ _ _ _ _
  · simp only [resolve, hg]
    simp [go_sem]
  · simp [invoke, go_sem, eg]
  · refine (callsIn_wide.2 (hseq (w.heap.size + 1) Tl J Jx W1 hb1 stl
      (fun pre A B hz h i => ⟨hI _ _ _ (by omega) h.1 (toI i), keepD hz i _ (by omega) h.2.1, keepD hz i _ (by omega) h.2.2.1, nT hz i _ h.2.2.2.1, nT hz i _ h.2.2.2.2⟩)
      (fun pre A B hz h i => by
        obtain ⟨⟨c, hc, hl⟩, h2, h3, h4⟩ := h
        exact ⟨⟨c, hIx _ _ _ _ (by omega) hc (toI i), keepD hz i _ (by omega) hl⟩, keepD hz i _ (by omega) h2, nT hz i _ h3, nT hz i _ h4⟩)
      (fun pre A h k hk => by
        rcases hk with e | hk
        · subst e; exact ⟨fun ha => by have := harg _ ha; have := hb0.size; omega, (Array.getElem?_eq_some_iff.1 h.2.1).1⟩
        · exact hlt _ _ h.1 k hk)
      ?_ ⟨hI1, hL1, hD1, fun h => by have := ht1 _ h; omega, fun h => by have := ht1 _ h; omega⟩)).mono ?_
    · -- one round
      rintro pre x W ⟨hi, hl, hd, ht, ht'⟩ hpre
      have hlt1 : w.heap.size + 1 < W.heap.size := (Array.getElem?_eq_some_iff.1 hl).1
      have hy := run_yield (P := P) (args := encs x) hl (by rw [hrec]; exact hps x)
      rw [hrec] at hy
      refine yield_wide (m := m - 1 - 1) ⟨fn, _, assign, body, hy, roundIn_of_wpIn trivial (hassign _ pre x W _ (by omega) hi ?_)⟩
      intro a' Wa ba hax
      have ia : Itr w.heap.size Th W Wa := .of_below ba
      have hza := ba.size
      have hla : Wa.heap[w.heap.size + 1]? = some (.loop (rec .ready none)) := (ba.block _ hlt1).trans hl
      have hda : Wa.heap[w.heap.size]? = some (.deferred (some [])) := (ba.block _ (by omega)).trans hd
      have hta : ¬ Th Wa w.heap.size := fun h => ht ((st _ _ (by omega) ia _).1 h)
      have hta' : ¬ Th Wa (w.heap.size + 1) := fun h => ht' ((st _ _ (by omega) ia _).1 h)
      have hia : I pre Wa := hI _ _ _ (by omega) hi ia
      refine ⟨_, run_beginRound hla (by rw [hrec]), ?_⟩
      obtain ⟨Wb, hWb⟩ : ∃ Wb, Wa.putObj (w.heap.size + 1) (.loop { rec .ready none with state := .busy }) = Wb := ⟨_, rfl⟩
      have ib : Itr w.heap.size Th Wa Wb := by rw [← hWb]; exact itr_putObj _ (by omega) hta'
      have hzb : Wa.heap.size ≤ Wb.heap.size := ib.size
      have hlb : Wb.heap[w.heap.size + 1]? = some (.loop { rec .ready none with state := .busy }) := by rw [← hWb]; exact World.putObj_heap_same (by omega)
      have hdb : Wb.heap[w.heap.size]? = some (.deferred (some [])) := by rw [← hWb]; exact (World.putObj_heap_other (by omega)).trans hda
      have htb : ¬ Th Wb w.heap.size := fun h => hta ((st _ _ (by omega) ib _).1 h)
      have htb' : ¬ Th Wb (w.heap.size + 1) := fun h => hta' ((st _ _ (by omega) ib _).1 h)
      have hib : I pre Wb := hI _ _ _ (by omega) hia ib
      have haxb : Ax x a' Wb := hAx _ _ _ _ (by omega) hax (fun k hk hc => by
        rw [← hWb]
        refine World.putObj_heap_other (fun e => ?_)
        subst e
        obtain ⟨cs, t, f, hc⟩ := hc
        rw [hla] at hc
        cases hc)
      rw [hWb]
      -- from the round's beginning to its end
      have fin : ∀ (jump : Option Code) (W3 : World), Rnd Th Wb W3 → ∃ W4, (Instr.endRound (w.heap.size + 1) jump).run P W3 = .ok (.bool jump.isNone) W4 ∧ Itr w.heap.size Th W3 W4 ∧ w.heap.size ≤ W3.heap.size ∧
          W4.heap[w.heap.size + 1]? = some (.loop (rec (if jump.isNone then .ready else .done) jump)) ∧ W4.heap[w.heap.size]? = some (.deferred (some [])) ∧ ¬ Th W4 w.heap.size ∧ ¬ Th W4 (w.heap.size + 1) ∧ Rnd Tl W W4 := fun jump W3 r3 => by
        have h3 := r3.size
        have hl3 : W3.heap[w.heap.size + 1]? = some (.loop { rec .ready none with state := .busy }) := (r3.same _ (by omega) htb').trans hlb
        have hd3 : W3.heap[w.heap.size]? = some (.deferred (some [])) := (r3.same _ (by omega) htb).trans hdb
        have ht3 : ¬ Th W3 w.heap.size := fun h => (r3.own _ h).elim htb (fun h => by omega)
        have ht3' : ¬ Th W3 (w.heap.size + 1) := fun h => (r3.own _ h).elim htb' (fun h => by omega)
        have i4 : Itr w.heap.size Th W3 (W3.putObj (w.heap.size + 1) (.loop (rec (if jump.isNone then .ready else .done) jump))) := itr_putObj _ (by omega) ht3'
        have hr := run_endRound (P := P) jump hl3
        rw [hrec] at hr
        refine ⟨W3.putObj (w.heap.size + 1) (.loop (rec (if jump.isNone then .ready else .done) jump)), by rw [hrec]; exact hr, i4, by omega, World.putObj_heap_same (by omega), (World.putObj_heap_other (by omega)).trans hd3,
          fun h => ht3 ((st _ _ (by omega) i4 _).1 h), fun h => ht3' ((st _ _ (by omega) i4 _).1 h), ⟨i4.os.trans (r3.os.trans (ib.os.trans ba.os)), i4.tape.trans (r3.tape.trans (ib.tape.trans ba.tape)), i4.output.trans (r3.output.trans (ib.output.trans ba.output)), by have := i4.size; omega, fun k hk hn => ?_, fun k hk => ?_⟩⟩
        · have hkl : k ≠ w.heap.size + 1 := fun e => hn (.inl e)
          have hkt : ¬ Th W k := fun e => hn (.inr e)
          have hkb : ¬ Th Wb k := fun h => hkt ((st _ _ (by omega) ia _).1 ((st _ _ (by omega) ib _).1 h))
          rw [World.putObj_heap_other hkl, r3.same k (by omega) hkb, ← hWb, World.putObj_heap_other hkl]
          exact ba.block k hk
        · rcases hk with e | hk
          · exact .inl (.inl e)
          · rcases r3.own _ ((st _ _ (by omega) i4 _).1 hk) with h | h
            · exact .inl (.inr ((st _ _ (by omega) ia _).1 ((st _ _ (by omega) ib _).1 h)))
            · exact .inr (by omega)
      refine wpIn_mono (hbody _ pre x a' _ (by omega) hib haxb hpre) ?_
      rintro e a3 W3 hp
      cases e with
      | normal =>
        obtain ⟨r3, hi3⟩ := hp
        obtain ⟨W4, hr, i4, hz, hl4, hd4, h4, h4', r4⟩ := fin none W3 r3
        exact ⟨_, _, hr, r4, .inl ⟨rfl, hI _ _ _ hz hi3 i4, hl4, hd4, h4, h4'⟩⟩
      | ret =>
        obtain ⟨r3, hi3⟩ := hp
        obtain ⟨W4, hr, i4, hz, hl4, hd4, h4, h4', r4⟩ := fin (some .ret) W3 r3
        exact ⟨_, _, hr, r4, .inr ⟨rfl, ⟨.ret, hIx _ _ _ _ hz hi3 i4, hl4⟩, hd4, h4, h4'⟩⟩
      | exit id =>
        obtain ⟨r3, hi3⟩ := hp
        obtain ⟨W4, hr, i4, hz, hl4, hd4, h4, h4', r4⟩ := fin (some (.exit id)) W3 r3
        exact ⟨_, _, hr, r4, .inr ⟨rfl, ⟨.exit id, hIx _ _ _ _ hz hi3 i4, hl4⟩, hd4, h4, h4'⟩⟩
      | goto t =>
        obtain ⟨r3, hi3⟩ := hp
        obtain ⟨W4, hr, i4, hz, hl4, hd4, h4, h4', r4⟩ := fin (some (.goto t)) W3 r3
        exact ⟨_, _, hr, r4, .inr ⟨rfl, ⟨.goto t, hIx _ _ _ _ hz hi3 i4, hl4⟩, hd4, h4, h4'⟩⟩
      | panic ch => exact hp.elim
      | outgrown => exact hp.elim
    · -- behind the iterator
      rintro e W2 ⟨⟨v, rfl⟩, r2, hj⟩
      have net : ∀ (W3 : World), ¬ Th W2 (w.heap.size + 1) → Itr w.heap.size Th W2 W3 → Rnd Th w W3 := fun W3 hn i3 => by
        have hs2 := r2.size
        refine ⟨i3.os.trans (r2.os.trans bw.os), i3.tape.trans (r2.tape.trans bw.tape), i3.output.trans (r2.output.trans bw.output), by have := i3.size; omega, fun k hk hn => ?_, fun k hk => ?_⟩
        · rw [i3.same k (by omega) (.inl hk), r2.same k (by omega) ?_, bw.block k hk]
          rintro (e | h)
          · omega
          · exact hn ((st _ _ (Nat.le_refl _) i1 _).1 h)
        · have h2 := (st _ _ (by omega) i3 _).1 hk
          rcases r2.own k (.inr h2) with (e | h) | h
          · subst e; exact absurd h2 hn
          · exact .inl ((st _ _ (Nat.le_refl _) i1 _).1 h)
          · exact .inr (by omega)
      rcases hj with ⟨hi, hl, hd, h4, h4'⟩ | ⟨pre, hpre, ⟨c, hi, hl⟩, hd, h4, h4'⟩
      · have hz := r2.size
        have i3 : Itr w.heap.size Th W2 (W2.putObj (w.heap.size + 1) (.loop { rec .ready none with state := .exhausted })) := itr_putObj _ (by omega) h4'
        exact ⟨none, _, by have := run_endLoop (P := P) hl (by rw [hrec]; simp); rw [hrec] at this ⊢; exact this, hdone _ _ rfl (hI _ _ _ (by omega) hi i3) (net _ h4' i3) (fun h => h4 ((st _ _ (by omega) i3 _).1 h)) ((World.putObj_heap_other (by omega)).trans hd)⟩
      · have hz := r2.size
        have i3 : Itr w.heap.size Th W2 (W2.putObj (w.heap.size + 1) (.loop { rec .done (some c) with state := .exhausted })) := itr_putObj _ (by omega) h4'
        exact ⟨some c, _, by have := run_endLoop (P := P) hl (by rw [hrec]; simp); rw [hrec] at this ⊢; exact this, hstop _ c pre _ rfl hpre (hIx _ _ _ _ (by omega) hi i3) (net _ h4' i3) (fun h => h4 ((st _ _ (by omega) i3 _).1 h)) ((World.putObj_heap_other (by omega)).trans hd)⟩
end Go.Proofs.Ytgcbcmhdlgklgaa
