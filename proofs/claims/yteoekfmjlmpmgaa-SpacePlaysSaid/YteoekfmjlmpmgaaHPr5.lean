/- The program's space as it lies: its box, its rows of states, of free pages, of pages that wait. No statement is proved here. -/
import Derived.Test.YteoekfmjlmpmgaaHPr4
import Derived.Test.YteoekfmjlmpmgaaHTwo
namespace Go.Proofs.Yteoekfmjlmpmgaa
open Go.RowKit
set_option maxRecDepth 100000

/-- The blocks of a space. -/
def blF (a g : Nat) (vf vw : Value) : List Nat := [a, g] ++ vf.ownBlock.toList ++ vw.ownBlock.toList
theorem mem_blF {a g : Nat} {vf vw : Value} {b : Nat} : b ∈ blF a g vf vw ↔ b = a ∨ b = g ∨ vf.ownBlock = some b ∨ vw.ownBlock = some b := by
  simp [blF, or_assoc]
/-- Only these blocks turned, and what a space has then it had, or is new. -/
structure St (w w' : World) (F F' : List Nat) : Prop where
  only : Only F w w'
  more : ∀ b ∈ F', b ∈ F ∨ w.heap.size ≤ b
theorem St.refl (w : World) (F : List Nat) : St w w F F := ⟨Only.refl _ _, fun _ h => .inl h⟩
theorem St.trans {w w1 w2 : World} {F F1 F2 : List Nat} (h : St w w1 F F1) (k : St w1 w2 F1 F2) : St w w2 F F2 :=
  ⟨h.only.then_ k.only h.more, fun b hb => by
    rcases k.more b hb with h1 | h1
    · exact h.more b h1
    · exact .inr (Nat.le_trans h.only.size h1)⟩
theorem St.drewN {w w' : World} {F F' : List Nat} (h : St w w' F F') (q : Nat) : St w (w'.drewN q) F F' := ⟨h.only.drewN q, h.more⟩
/-- A space in memory. -/
structure PspM (w : World) (B a g c : Nat) (vf vw : Value) (L H Wt : List Int) : Prop where
  hp : HeapAt w B a (.slice (some ⟨g, 0, none⟩) L.length c) vf vw H
  st : OwnZ w B (.slice (some ⟨g, 0, none⟩) L.length c) L
  wt : OwnI w B vw Wt
  d1 : g ≠ a
  d2 : vf.ownBlock ≠ some g
  d3 : vw.ownBlock ≠ some a
  d4 : vw.ownBlock ≠ some g
  d5 : ∀ b, vf.ownBlock = some b → vw.ownBlock ≠ some b
theorem PspM.lt {w : World} {B a g c : Nat} {vf vw : Value} {L H Wt : List Int} (h : PspM w B a g c vf vw L H Wt) : ∀ b ∈ blF a g vf vw, B ≤ b ∧ b < w.heap.size := fun b hb => by
  rcases mem_blF.1 hb with rfl | rfl | hb | hb
  · exact ⟨h.hp.low, lt_of_block h.hp.box⟩
  · exact h.st.block _ rfl
  · exact h.hp.own.block _ hb
  · exact h.wt.block _ hb
theorem PspM.keep {w w' : World} {B a g c : Nat} {vf vw : Value} {L H Wt : List Int} (h : PspM w B a g c vf vw L H Wt) (hk : ∀ b ∈ blF a g vf vw, w'.heap[b]? = w.heap[b]?) : PspM w' B a g c vf vw L H Wt :=
  ⟨⟨(hk a (mem_blF.2 (.inl rfl))).trans h.hp.box, h.hp.own.keep fun b hb => hk b (mem_blF.2 (.inr (.inr (.inl hb)))), h.hp.off, h.hp.low⟩,
    h.st.keep fun b hb => hk b (mem_blF.2 (.inr (.inl (by have : g = b := (by simpa [Value.ownBlock] using hb); exact this.symm)))),
    h.wt.keep fun b hb => hk b (mem_blF.2 (.inr (.inr (.inr hb)))), h.d1, h.d2, h.d3, h.d4, h.d5⟩
theorem PspM.drewN {w : World} {B a g c : Nat} {vf vw : Value} {L H Wt : List Int} (h : PspM w B a g c vf vw L H Wt) (q : Nat) : PspM (w.drewN q) B a g c vf vw L H Wt := h.keep fun b _ => (below_drewN (Below.refl w.heap.size w) q).block b (by
  rename_i hb
  exact (h.lt b hb).2)
/-- A page stands otherwise. -/
theorem PspM.setZ {w : World} {B a g c : Nat} {vf vw : Value} {L H Wt : List Int} (h : PspM w B a g c vf vw L H Wt) (j : Nat) (x : Int) :
    PspM (w.setCell ⟨g, j, none⟩ (.int .u8 x)) B a g c vf vw (L.set j x) H Wt ∧ St w (w.setCell ⟨g, j, none⟩ (.int .u8 x)) (blF a g vf vw) (blF a g vf vw) := by
  obtain ⟨h1, h2⟩ := h.st.set j x
  have hl : (L.set j x).length = L.length := List.length_set
  refine ⟨⟨?_, by rw [hl]; exact h1, h.wt.grown h2 (fun b hb e => h.d4 (by rw [hb, e])), h.d1, h.d2, h.d3, h.d4, h.d5⟩, (Only.of_grown h2).mono fun k hk => .inl ?_, fun b hb => .inl hb⟩
  · rw [hl]
    exact ⟨(set_off w _ h.d1.symm).trans h.hp.box, h.hp.own.grown h2 (fun b hb e => h.d2 (by rw [hb, e])), h.hp.off, h.hp.low⟩
  · rw [List.mem_singleton.1 hk]
    exact mem_blF.2 (.inr (.inl rfl))
/-- A call on the heap. -/
theorem PspM.heap {w w' : World} {B a g c : Nat} {vf vw vf' : Value} {L H H' Wt : List Int} (h : PspM w B a g c vf vw L H Wt) (k : HeapAt w' B a (.slice (some ⟨g, 0, none⟩) L.length c) vf' vw H') (ho : Only (a :: vf.ownBlock.toList) w w')
    (hv : vf'.ownBlock = vf.ownBlock ∨ ∃ b, vf'.ownBlock = some b ∧ w.heap.size ≤ b) : PspM w' B a g c vf' vw L H' Wt ∧ St w w' (blF a g vf vw) (blF a g vf' vw) := by
  have lg := h.lt g (mem_blF.2 (.inr (.inl rfl)))
  have hnm : ∀ b, b ∈ blF a g vf vw → b ≠ a → vf.ownBlock ≠ some b → w'.heap[b]? = w.heap[b]? := fun b hb h1 h2 => ho.block b (h.lt b hb).2 (by simp [h1, h2])
  refine ⟨⟨k, h.st.keep fun b hb => ?_, h.wt.keep fun b hb => ?_, h.d1, fun e => ?_, h.d3, h.d4, fun b hb e => ?_⟩, ho.mono fun b hb => .inl ?_, fun b hb => ?_⟩
  · have : g = b := by simpa [Value.ownBlock] using hb
    subst this
    exact hnm _ (mem_blF.2 (.inr (.inl rfl))) h.d1 h.d2
  · exact hnm b (mem_blF.2 (.inr (.inr (.inr hb)))) (fun e => h.d3 (by rw [hb, e])) (fun e => h.d5 b e hb)
  · rcases hv with hv | ⟨b, h1, h2⟩
    · exact h.d2 (by rw [← hv, e])
    · rw [h1] at e
      injection e with e
      omega
  · rcases hv with hv | ⟨q, h1, h2⟩
    · exact h.d5 b (by rw [← hv, hb]) e
    · rw [h1] at hb
      injection hb with hb
      have := (h.wt.block b e).2
      omega
  · rcases List.mem_cons.1 hb with rfl | hb
    · exact mem_blF.2 (.inl rfl)
    · exact mem_blF.2 (.inr (.inr (.inl (by simpa using hb))))
  · rcases mem_blF.1 hb with h1 | h1 | h1 | h1
    · exact .inl (mem_blF.2 (.inl h1))
    · exact .inl (mem_blF.2 (.inr (.inl h1)))
    · rcases hv with hv | ⟨q, h2, h3⟩
      · exact .inl (mem_blF.2 (.inr (.inr (.inl (by rw [← hv, h1])))))
      · rw [h2] at h1
        injection h1 with h1
        exact .inr (by omega)
    · exact .inl (mem_blF.2 (.inr (.inr (.inr h1))))
/-- A page more that waits. -/
theorem PspM.wput {w w1 : World} {B a g c : Nat} {vf vw vw' : Value} {L H Wt Wt' : List Int} (h : PspM w B a g c vf vw L H Wt) (hg : GrewI B w w1 vw vw' Wt') :
    PspM (w1.setCell ⟨a, 2, none⟩ vw') B a g c vf vw' L H Wt' ∧ St w (w1.setCell ⟨a, 2, none⟩ vw') (blF a g vf vw) (blF a g vf vw') ∧ w1.heap[a]? = some (.cells #[.slice (some ⟨g, 0, none⟩) L.length c, vf, vw] 58) := by
  have hb1 := hg.row h.hp.box (fun b hb e => h.d3 (by rw [hb, e]))
  have hoff : vw'.ownBlock ≠ some a := fun e => hg.off (lt_of_block h.hp.box) (fun b hb e' => h.d3 (by rw [hb, e'])) a e rfl
  have hoffg : vw'.ownBlock ≠ some g := fun e => hg.off (h.lt g (mem_blF.2 (.inr (.inl rfl)))).2 (fun b hb e' => h.d4 (by rw [hb, e'])) g e rfl
  refine ⟨⟨⟨set_heap hb1 vw', ?_, h.hp.off, h.hp.low⟩, ?_, hg.own.keep fun b hb => set_off w1 _ (fun e => hoff (by rw [hb, e])), h.d1, h.d2, hoff, hoffg, fun b hb e => ?_⟩, ⟨?_, fun b hb => ?_⟩, hb1⟩
  · refine (h.hp.own.grown hg.grow (fun b hb => h.d5 b hb)).keep fun b hb => set_off w1 _ (fun e => h.hp.off (by rw [hb, e]))
  · refine (h.st.grown hg.grow (fun b hb e => h.d4 (by rw [e]; simpa [Value.ownBlock] using hb.symm))).keep fun b hb => set_off w1 _ (fun e => h.d1 ?_)
    have : g = b := by simpa [Value.ownBlock] using hb
    rw [this, e]
  · exact hg.off (h.hp.own.block b hb).2 (fun q hq e' => h.d5 b hb (by rw [hq, e'])) b e rfl
  · exact ((only_grow hg.grow).mono fun k hk => .inl (mem_blF.2 (.inr (.inr (.inr (by simpa using hk)))))).setCell (p := ⟨a, 2, none⟩) (.inl (mem_blF.2 (.inl rfl))) _
  · rcases mem_blF.1 hb with h1 | h1 | h1 | h1
    · exact .inl (mem_blF.2 (.inl h1))
    · exact .inl (mem_blF.2 (.inr (.inl h1)))
    · exact .inl (mem_blF.2 (.inr (.inr (.inl h1))))
    · rcases hg.at_ with h2 | ⟨q, h2, h3⟩
      · exact .inl (mem_blF.2 (.inr (.inr (.inr (by rw [← h2, h1])))))
      · rw [h2] at h1
        injection h1 with h1
        exact .inr (by omega)
/-- None waits. -/
theorem PspM.wnil {w : World} {B a g c : Nat} {vf vw : Value} {L H Wt : List Int} (h : PspM w B a g c vf vw L H Wt) :
    PspM (w.setCell ⟨a, 2, none⟩ (.slice none 0 0)) B a g c vf (.slice none 0 0) L H [] ∧ St w (w.setCell ⟨a, 2, none⟩ (.slice none 0 0)) (blF a g vf vw) (blF a g vf (.slice none 0 0)) := by
  refine ⟨⟨⟨set_heap h.hp.box _, h.hp.own.keep fun b hb => set_off w _ (fun e => h.hp.off (by rw [hb, e])), h.hp.off, h.hp.low⟩, h.st.keep fun b hb => set_off w _ (fun e => h.d1 ?_), OwnI.nil _ _, h.d1, h.d2, (fun e => by cases e), (fun e => by cases e), fun b hb e => by cases e⟩,
    (Only.refl _ _).setCell (p := ⟨a, 2, none⟩) (.inl (mem_blF.2 (.inl rfl))) _, fun b hb => .inl ?_⟩
  · have : g = b := by simpa [Value.ownBlock] using hb
    rw [this, e]
  · rcases mem_blF.1 hb with h1 | h1 | h1 | h1
    · exact mem_blF.2 (.inl h1)
    · exact mem_blF.2 (.inr (.inl h1))
    · exact mem_blF.2 (.inr (.inr (.inl h1)))
    · cases h1
/-- The program's space: which pages are free, in use, wait. -/
def PSp (B : Nat) (w : World) (F : List Nat) (a : Nat) (L : List Int) : Prop :=
  ∃ g c vf vw H Wt, F = blF a g vf vw ∧ PspM w B a g c vf vw L H Wt ∧ heapP H ∧ H.Perm (areL L 0) ∧ Wt.Perm (areL L 2) ∧ three L ∧ 1 ≤ L.length ∧ L.length ≤ 65536
theorem PSp.lt {B : Nat} {w : World} {F : List Nat} {a : Nat} {L : List Int} (h : PSp B w F a L) : ∀ b ∈ F, B ≤ b ∧ b < w.heap.size := by
  obtain ⟨g, c, vf, vw, H, Wt, rfl, h1, -⟩ := h
  exact h1.lt
theorem PSp.keep {B : Nat} {w w' : World} {F : List Nat} {a : Nat} {L : List Int} (h : PSp B w F a L) (hk : ∀ b ∈ F, w'.heap[b]? = w.heap[b]?) : PSp B w' F a L := by
  obtain ⟨g, c, vf, vw, H, Wt, rfl, h1, h2⟩ := h
  exact ⟨g, c, vf, vw, H, Wt, rfl, h1.keep hk, h2⟩
/-- Whether there is such a page, and it stands so. -/
def stB (L : List Int) (n x : Int) : Bool := decide (0 ≤ n) && L[n.toNat]? == some x
end Go.Proofs.Yteoekfmjlmpmgaa
