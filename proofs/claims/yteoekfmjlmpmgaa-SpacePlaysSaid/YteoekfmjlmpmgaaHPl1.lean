/- Two spaces of the program's beside two of the document's, in a struct's box. No statement is proved here. -/
import Derived.Test.YteoekfmjlmpmgaaHTold2
namespace Go.Proofs.Yteoekfmjlmpmgaa
open Go.RowKit
set_option maxRecDepth 100000

/-- No block in both. -/
def Dj (A B : List Nat) : Prop := ∀ b ∈ A, b ∉ B
theorem Dj.swap {A B : List Nat} (h : Dj A B) : Dj B A := fun b hb ha => h b ha hb
theorem Dj.more {A A' B : List Nat} {n : Nat} (h : Dj A B) (hA : ∀ b ∈ A', b ∈ A ∨ n ≤ b) (hB : ∀ b ∈ B, b < n) : Dj A' B := fun b hb hn => by
  rcases hA b hb with h1 | h1
  · exact h b h1 hn
  · have := hB b hn; omega
/-- A space of the program's, and one of the document's, off the blocks of K. -/
structure Side (Sp : World → List Nat → Nat → List Int → Prop) (W w : World) (K : List Nat) (a x : Nat) (La Lx : List Int) (F G : List Nat) : Prop where
  sp : Sp w F a La
  rf : RSp W.heap.size w G x Lx
  fg : Dj F G
  fk : Dj F K
  gk : Dj G K
  kl : ∀ k ∈ K, k < w.heap.size
section
variable {Sp : World → List Nat → Nat → List Int → Prop} {W w w' : World} {K K' F G F' G' S : List Nat} {a x : Nat} {La Lx La' Lx' : List Int}
theorem Side.stay (P : P13 W Sp) (h : Side Sp W w K a x La Lx F G) (hf : ∀ b ∈ F, w'.heap[b]? = w.heap[b]?) (hg : ∀ b ∈ G, w'.heap[b]? = w.heap[b]?) (hk : ∀ k ∈ K', (k ∈ K ∨ w.heap.size ≤ k) ∧ k < w'.heap.size) : Side Sp W w' K' a x La Lx F G :=
  ⟨P.keep h.sp hf, h.rf.keep hg, h.fg, fun b hb hn => by
    rcases (hk b hn).1 with h1 | h1
    · exact h.fk b hb h1
    · have := (P.lt h.sp b hb).2; omega, fun b hb hn => by
    rcases (hk b hn).1 with h1 | h1
    · exact h.gk b hb h1
    · have := (h.rf.lt b hb).2; omega, fun k hk' => (hk k hk').2⟩
theorem Side.sp_ (P : P13 W Sp) (h : Side Sp W w K a x La Lx F G) (ho : Only F w w') (hs : Sp w' F' a La') (hm : ∀ b ∈ F', b ∈ F ∨ w.heap.size ≤ b) : Side Sp W w' K a x La' Lx F' G :=
  ⟨hs, h.rf.keep fun b hb => ho.block b (h.rf.lt b hb).2 (h.fg.swap b hb), h.fg.more hm fun b hb => (h.rf.lt b hb).2, h.fk.more hm h.kl, h.gk, fun k hk => Nat.lt_of_lt_of_le (h.kl k hk) ho.size⟩
theorem Side.rf_ (P : P13 W Sp) (h : Side Sp W w K a x La Lx F G) (ho : Only G w w') (hs : RSp W.heap.size w' G' x Lx') (hm : ∀ b ∈ G', b ∈ G ∨ w.heap.size ≤ b) : Side Sp W w' K a x La Lx' F G' :=
  ⟨P.keep h.sp fun b hb => ho.block b (P.lt h.sp b hb).2 (h.fg b hb), hs, (h.fg.swap.more hm fun b hb => (P.lt h.sp b hb).2).swap, h.fk, h.gk.more hm h.kl, fun k hk => Nat.lt_of_lt_of_le (h.kl k hk) ho.size⟩
end
/-- Both sides, and the box that points to them. -/
structure Wh (Sp : World → List Nat → Nat → List Int → Prop) (W w : World) (E : List Nat) (q : Nat) (cs : Array Value) (a x b y : Nat) (La Lx M N : List Int) : Prop where
  sides : ∃ F G F2 G2, Side Sp W w (F2 ++ G2 ++ q :: E) a x La Lx F G ∧ Side Sp W w (F ++ G ++ q :: E) b y M N F2 G2
  box : w.heap[q]? = some (.cells cs 39)
  low : W.heap.size ≤ q
  top : Below W.heap.size W w
section
variable {Sp : World → List Nat → Nat → List Int → Prop} {W w w' : World} {E : List Nat} {q : Nat} {cs : Array Value} {a x b y : Nat} {La Lx M N La' Lx' : List Int}
theorem Wh.swap (h : Wh Sp W w E q cs a x b y La Lx M N) : Wh Sp W w E q cs b y a x M N La Lx := by
  obtain ⟨F, G, F2, G2, h1, h2⟩ := h.sides
  exact ⟨⟨F2, G2, F, G, h2, h1⟩, h.box, h.low, h.top⟩
theorem Wh.sp {f : FuncId} {args : Array Value} {r : Value} (P : P13 W Sp) (h : Wh Sp W w E q cs a x b y La Lx M N) (c : ∀ F, Sp w F a La → Calls Try.prog f args w (SpTo Sp w F a La' r)) :
    Calls Try.prog f args w fun e w' => e = .returned r ∧ Wh Sp W w' E q cs a x b y La' Lx M N ∧ Stay E w w' := by
  obtain ⟨F, G, F2, G2, h1, h2⟩ := h.sides
  refine (c F h1.sp).mono fun e w' k => ?_
  obtain ⟨he, ho, F', k1, k2⟩ := k
  refine ⟨he, ⟨⟨F', G, F2, G2, h1.sp_ P ho k1 k2, h2.stay P (fun b hb => ho.block b (P.lt h2.sp b hb).2 fun hn => h2.fk b hb (by simp [hn])) (fun b hb => ho.block b (h2.rf.lt b hb).2 fun hn => h2.gk b hb (by simp [hn])) fun k hk => ?_⟩, ?_, h.low, Only.lower h.top ho (fun b hb => (P.lt h1.sp b hb).1) h.top.size⟩, fun k hk => ho.block k (h1.kl k (by simp [hk])) fun hn => h1.fk k hn (by simp [hk])⟩
  · rcases List.mem_append.1 hk with hk | hk
    · rcases List.mem_append.1 hk with hk | hk
      · refine ⟨?_, (P.lt k1 k hk).2⟩
        rcases k2 k hk with h3 | h3
        · exact .inl (by simp [h3])
        · exact .inr h3
      · exact ⟨.inl (by simp [hk]), Nat.lt_of_lt_of_le (h1.rf.lt k hk).2 ho.size⟩
    · exact ⟨.inl (List.mem_append.2 (.inr hk)), Nat.lt_of_lt_of_le (h2.kl k (List.mem_append.2 (.inr hk))) ho.size⟩
  · rw [ho.block q (lt_of_block h.box) fun hn => h1.fk q hn (by simp)]
    exact h.box
theorem Wh.rf {f : FuncId} {args : Array Value} {r : Value} (P : P13 W Sp) (h : Wh Sp W w E q cs a x b y La Lx M N) (c : ∀ F, RSp W.heap.size w F x Lx → Calls Try.prog f args w (SpTo (RSp W.heap.size) w F x Lx' r)) :
    Calls Try.prog f args w fun e w' => e = .returned r ∧ Wh Sp W w' E q cs a x b y La Lx' M N ∧ Stay E w w' := by
  obtain ⟨F, G, F2, G2, h1, h2⟩ := h.sides
  refine (c G h1.rf).mono fun e w' k => ?_
  obtain ⟨he, ho, G', k1, k2⟩ := k
  refine ⟨he, ⟨⟨F, G', F2, G2, h1.rf_ P ho k1 k2, h2.stay P (fun b hb => ho.block b (P.lt h2.sp b hb).2 fun hn => h2.fk b hb (by simp [hn])) (fun b hb => ho.block b (h2.rf.lt b hb).2 fun hn => h2.gk b hb (by simp [hn])) fun k hk => ?_⟩, ?_, h.low, Only.lower h.top ho (fun b hb => (h1.rf.lt b hb).1) h.top.size⟩, fun k hk => ho.block k (h1.kl k (by simp [hk])) fun hn => h1.gk k hn (by simp [hk])⟩
  · rcases List.mem_append.1 hk with hk | hk
    · rcases List.mem_append.1 hk with hk | hk
      · exact ⟨.inl (by simp [hk]), Nat.lt_of_lt_of_le (P.lt h1.sp k hk).2 ho.size⟩
      · refine ⟨?_, (k1.lt k hk).2⟩
        rcases k2 k hk with h3 | h3
        · exact .inl (by simp [h3])
        · exact .inr h3
    · exact ⟨.inl (List.mem_append.2 (.inr hk)), Nat.lt_of_lt_of_le (h2.kl k (List.mem_append.2 (.inr hk))) ho.size⟩
  · rw [ho.block q (lt_of_block h.box) fun hn => h1.gk q hn (by simp)]
    exact h.box
theorem Wh.then_ (P : P13 W Sp) (h : Wh Sp W w E q cs a x b y La Lx M N) (hb : Below w.heap.size w w') : Wh Sp W w' E q cs a x b y La Lx M N := by
  obtain ⟨F, G, F2, G2, h1, h2⟩ := h.sides
  exact ⟨⟨F, G, F2, G2, h1.stay P (fun b hb' => hb.block b (P.lt h1.sp b hb').2) (fun b hb' => hb.block b (h1.rf.lt b hb').2) fun k hk => ⟨.inl hk, Nat.lt_of_lt_of_le (h1.kl k hk) hb.size⟩, h2.stay P (fun b hb' => hb.block b (P.lt h2.sp b hb').2) (fun b hb' => hb.block b (h2.rf.lt b hb').2) fun k hk => ⟨.inl hk, Nat.lt_of_lt_of_le (h2.kl k hk) hb.size⟩⟩,
    row_then h.box hb, h.low, below_then h.top hb⟩
/-- A block more that no side has. -/
theorem Wh.fresh (P : P13 W Sp) (h : Wh Sp W w E q cs a x b y La Lx M N) (o : Obj) : Wh Sp W (w.alloc o) (w.heap.size :: E) q cs a x b y La Lx M N := by
  have hb := below1 w o
  have hz : (w.alloc o).heap.size = w.heap.size + 1 := by simp
  obtain ⟨F, G, F2, G2, h1, h2⟩ := h.sides
  refine ⟨⟨F, G, F2, G2, h1.stay P (fun b hb' => hb.block b (P.lt h1.sp b hb').2) (fun b hb' => hb.block b (h1.rf.lt b hb').2) fun k hk => ?_, h2.stay P (fun b hb' => hb.block b (P.lt h2.sp b hb').2) (fun b hb' => hb.block b (h2.rf.lt b hb').2) fun k hk => ?_⟩,
    row_then h.box hb, h.low, below_then h.top hb⟩
  all_goals
    simp only [List.mem_append, List.mem_cons] at hk
    rcases hk with (hk | hk) | hk | hk | hk
  · exact ⟨.inl (by simp [hk]), by have := h1.kl k (by simp [hk]); omega⟩
  · exact ⟨.inl (by simp [hk]), by have := h1.kl k (by simp [hk]); omega⟩
  · exact ⟨.inl (by simp [hk]), by have := h1.kl k (by simp [hk]); omega⟩
  · exact ⟨.inr (by omega), by omega⟩
  · exact ⟨.inl (by simp [hk]), by have := h1.kl k (by simp [hk]); omega⟩
  · exact ⟨.inl (by simp [hk]), by have := h2.kl k (by simp [hk]); omega⟩
  · exact ⟨.inl (by simp [hk]), by have := h2.kl k (by simp [hk]); omega⟩
  · exact ⟨.inl (by simp [hk]), by have := h2.kl k (by simp [hk]); omega⟩
  · exact ⟨.inr (by omega), by omega⟩
  · exact ⟨.inl (by simp [hk]), by have := h2.kl k (by simp [hk]); omega⟩
/-- The fewer. -/
theorem Wh.less {E' : List Nat} (h : Wh Sp W w E q cs a x b y La Lx M N) (hE : ∀ k ∈ E', k ∈ E) : Wh Sp W w E' q cs a x b y La Lx M N := by
  obtain ⟨F, G, F2, G2, h1, h2⟩ := h.sides
  have hm : ∀ (A B : List Nat) k, k ∈ A ++ B ++ q :: E' → k ∈ A ++ B ++ q :: E := fun A B k hk => by
    simp only [List.mem_append, List.mem_cons] at hk ⊢
    rcases hk with hk | hk | hk
    · exact .inl hk
    · exact .inr (.inl hk)
    · exact .inr (.inr (hE k hk))
  exact ⟨⟨F, G, F2, G2, ⟨h1.sp, h1.rf, h1.fg, fun b hb hn => h1.fk b hb (hm _ _ b hn), fun b hb hn => h1.gk b hb (hm _ _ b hn), fun k hk => h1.kl k (hm _ _ k hk)⟩, ⟨h2.sp, h2.rf, h2.fg, fun b hb hn => h2.fk b hb (hm _ _ b hn), fun b hb hn => h2.gk b hb (hm _ _ b hn), fun k hk => h2.kl k (hm _ _ k hk)⟩⟩, h.box, h.low, h.top⟩
/-- A pointer of the box is turned. -/
theorem Wh.put (P : P13 W Sp) (h : Wh Sp W w E q cs a x b y La Lx M N) (j : Nat) (v : Value) : Wh Sp W (w.setCell ⟨q, j, none⟩ v) E q (cs.setIfInBounds j v) a x b y La Lx M N := by
  obtain ⟨F, G, F2, G2, h1, h2⟩ := h.sides
  have hs : (w.setCell ⟨q, j, none⟩ v).heap.size = w.heap.size := by simp [World.setCell]
  have hb1 := h.box
  refine ⟨⟨F, G, F2, G2, h1.stay P (fun b hb => Below.heap_setCell w ⟨q, j, none⟩ v b fun e => h1.fk b hb (by simp [e])) (fun b hb => Below.heap_setCell w ⟨q, j, none⟩ v b fun e => h1.gk b hb (by simp [e])) fun k hk => ⟨.inl hk, by rw [hs]; exact h1.kl k hk⟩,
    h2.stay P (fun b hb => Below.heap_setCell w ⟨q, j, none⟩ v b fun e => h2.fk b hb (by simp [e])) (fun b hb => Below.heap_setCell w ⟨q, j, none⟩ v b fun e => h2.gk b hb (by simp [e])) fun k hk => ⟨.inl hk, by rw [hs]; exact h2.kl k hk⟩⟩, ?_, h.low, ?_⟩
  · rw [setCell_eq_setRow w q j cs 39 (0, 0) v h.box]
    exact setRow_heap _ _ _ _ _ _ h.box
  · exact Only.lower h.top ((Only.refl [q] w).setCell (p := ⟨q, j, none⟩) (.inl (List.mem_singleton.2 rfl)) v) (fun b hb => by rw [List.mem_singleton.1 hb]; exact h.low) h.top.size
/-- What both sides tell. -/
theorem Wh.told (P : P13 W Sp) (h : Wh Sp W w E q cs a x b y La La M N) :
    Calls Try.prog 15 #[.pointer (some ⟨a, 0, none⟩), .pointer (some ⟨x, 0, none⟩)] w fun e w' => e = .returned (.bool true) ∧ Wh Sp W w' E q cs a x b y La La M N ∧ Stay E w w' := by
  obtain ⟨F, G, F2, G2, h1, h2⟩ := h.sides
  have hS : SpK Sp W W w (G ++ F2 ++ G2 ++ q :: E) a La := ⟨⟨F, h1.sp, fun b hb => (P.lt h1.sp b hb).1, fun b hb hn => by
      simp only [List.mem_append] at hn
      rcases hn with ((hn | hn) | hn) | hn
      · exact h1.fg b hb hn
      · exact h1.fk b hb (by simp [hn])
      · exact h1.fk b hb (by simp [hn])
      · exact h1.fk b hb (by simp only [List.mem_append]; exact .inr hn)⟩, fun k hn => by
      simp only [List.mem_append] at hn
      rcases hn with ((hn | hn) | hn) | hn
      · exact (h1.rf.lt k hn).2
      · exact (P.lt h2.sp k hn).2
      · exact (h2.rf.lt k hn).2
      · exact h1.kl k (by simp only [List.mem_append]; exact .inr hn), h.top, h.top⟩
  refine (told_any P (Nat.le_refl _) hS h1.rf (fun g hg => by simp [hg])).mono fun e w' k => ?_
  obtain ⟨he, k1, k2, k3⟩ := k
  obtain ⟨F', k4, k5, k6⟩ := k1.sp
  refine ⟨he, ⟨⟨F', G, F2, G2, ⟨k4, h1.rf.keep fun b hb => k2 b (by simp [hb]), fun b hb hn => k6 b hb (by simp [hn]), fun b hb hn => k6 b hb (by simp only [List.mem_append] at hn ⊢; rcases hn with (hn | hn) | hn; exact .inl (.inl (.inr hn)); exact .inl (.inr hn); exact .inr hn), h1.gk, fun k hk => Nat.lt_of_lt_of_le (h1.kl k hk) k3⟩,
    ⟨P.keep h2.sp fun b hb => k2 b (by simp [hb]), h2.rf.keep fun b hb => k2 b (by simp [hb]), h2.fg, fun b hb hn => ?_, fun b hb hn => ?_, fun k hk => ?_⟩⟩, ?_, h.low, k1.top⟩, fun k hk => k2 k (by simp [hk])⟩
  · simp only [List.mem_append] at hn
    rcases hn with (hn | hn) | hn
    · exact k6 b hn (by simp [hb])
    · exact h2.fk b hb (by simp [hn])
    · exact h2.fk b hb (by simp only [List.mem_append]; exact .inr hn)
  · simp only [List.mem_append] at hn
    rcases hn with (hn | hn) | hn
    · exact k6 b hn (by simp [hb])
    · exact h2.gk b hb (by simp [hn])
    · exact h2.gk b hb (by simp only [List.mem_append]; exact .inr hn)
  · simp only [List.mem_append] at hk
    rcases hk with (hk | hk) | hk
    · exact (P.lt k4 k hk).2
    · exact Nat.lt_of_lt_of_le (h1.rf.lt k hk).2 k3
    · exact Nat.lt_of_lt_of_le (h2.kl k (by simp only [List.mem_append]; exact .inr hk)) k3
  · rw [k2 q (by simp)]
    exact h.box
/-- The program's clone takes the other one's place. -/
theorem Wh.clone (P : P13 W Sp) (h : Wh Sp W w E q cs a x b y La Lx M N) :
    Calls Try.prog 12 #[.pointer (some ⟨a, 0, none⟩)] w fun e w' => ∃ b', e = .returned (.pointer (some ⟨b', 0, none⟩)) ∧ Wh Sp W w' E q cs a x b' y La Lx La N := by
  obtain ⟨F, G, F2, G2, h1, h2⟩ := h.sides
  refine (P.clone F a La w h.top h1.sp).mono fun e w' k => ?_
  obtain ⟨F1, F3, b', he, ho, k1, k2, k3, k4, k5⟩ := k
  have hq : w'.heap[q]? = some (.cells cs 39) := by
    rw [ho.block q (lt_of_block h.box) fun hn => h1.fk q hn (by simp)]
    exact h.box
  have lq := lt_of_block h.box
  have rG : RSp W.heap.size w' G x Lx := h1.rf.keep fun b hb => ho.block b (h1.rf.lt b hb).2 (h1.fg.swap b hb)
  have rG2 : RSp W.heap.size w' G2 y N := h2.rf.keep fun b hb => ho.block b (h2.rf.lt b hb).2 fun hn => h2.gk b hb (by simp [hn])
  have d1 : Dj F1 G := h1.fg.more k2 fun b hb => (h1.rf.lt b hb).2
  have d2 : Dj F1 G2 := (show Dj F G2 from fun b hb hn => h1.fk b hb (by simp [hn])).more k2 fun b hb => (h2.rf.lt b hb).2
  have d3 : Dj F3 G := fun b hb hn => by have := k4 b hb; have := (h1.rf.lt b hn).2; omega
  have d4 : Dj F3 G2 := fun b hb hn => by have := k4 b hb; have := (h2.rf.lt b hn).2; omega
  have d5 : Dj F1 (q :: E) := (show Dj F (q :: E) from fun b hb hn => h1.fk b hb (by simp only [List.mem_append]; exact .inr hn)).more k2 fun b hb => h1.kl b (by simp only [List.mem_append]; exact .inr hb)
  have d6 : Dj F3 (q :: E) := fun b hb hn => by have := k4 b hb; have := h1.kl b (by simp only [List.mem_append]; exact .inr hn); omega
  have d7 : Dj G G2 := fun b hb hn => h1.gk b hb (by simp [hn])
  have l1 := P.lt k1
  have l3 := P.lt k3
  have lG := rG.lt
  have lG2 := rG2.lt
  have lq' : q < w'.heap.size := lt_of_block hq
  refine ⟨b', he, ⟨F1, G, F3, G2, ⟨k1, rG, d1, fun b hb hn => ?_, fun b hb hn => ?_, fun k hk => ?_⟩, ⟨k3, rG2, d4, fun b hb hn => ?_, fun b hb hn => ?_, fun k hk => ?_⟩⟩, hq, h.low, Only.lower h.top ho (fun b hb => (P.lt h1.sp b hb).1) h.top.size⟩
  · simp only [List.mem_append] at hn
    rcases hn with (hn | hn) | hn
    · exact k5 b hb hn
    · exact d2 b hb hn
    · exact d5 b hb hn
  · simp only [List.mem_append] at hn
    rcases hn with (hn | hn) | hn
    · exact d3 b hn hb
    · exact d7 b hb hn
    · exact h1.gk b hb (by simp only [List.mem_append]; exact .inr hn)
  · simp only [List.mem_append] at hk
    rcases hk with (hk | hk) | hk
    · exact (l3 k hk).2
    · exact (lG2 k hk).2
    · exact Nat.lt_of_lt_of_le (h1.kl k (by simp only [List.mem_append]; exact .inr hk)) ho.size
  · simp only [List.mem_append] at hn
    rcases hn with (hn | hn) | hn
    · exact k5 b hn hb
    · exact d3 b hb hn
    · exact d6 b hb hn
  · simp only [List.mem_append] at hn
    rcases hn with (hn | hn) | hn
    · exact d2 b hn hb
    · exact d7 b hn hb
    · exact h2.gk b hb (by simp only [List.mem_append]; exact .inr hn)
  · simp only [List.mem_append] at hk
    rcases hk with (hk | hk) | hk
    · exact (l1 k hk).2
    · exact (lG k hk).2
    · exact Nat.lt_of_lt_of_le (h1.kl k (by simp only [List.mem_append]; exact .inr hk)) ho.size
/-- The document's clone likewise. -/
theorem Wh.rclone (P : P13 W Sp) (h : Wh Sp W w E q cs a x b y La Lx M N) :
    Calls Try.prog 13 #[.pointer (some ⟨x, 0, none⟩)] w fun e w' => ∃ y', e = .returned (.pointer (some ⟨y', 0, none⟩)) ∧ Wh Sp W w' E q cs a x b y' La Lx M Lx := by
  obtain ⟨F, G, F2, G2, h1, h2⟩ := h.sides
  refine (rclone_any W.heap.size G x Lx w h1.rf).mono fun e w' k => ?_
  obtain ⟨y', G3, he, k1, k2, hb⟩ := k
  have s1 := h1.stay P (fun b hb' => hb.block b (P.lt h1.sp b hb').2) (fun b hb' => hb.block b (h1.rf.lt b hb').2) (K' := F2 ++ G3 ++ q :: E) fun k hk => ?_
  have s2 := h2.stay P (fun b hb' => hb.block b (P.lt h2.sp b hb').2) (fun b hb' => hb.block b (h2.rf.lt b hb').2) (K' := F ++ G ++ q :: E) fun k hk => ⟨.inl hk, Nat.lt_of_lt_of_le (h2.kl k hk) hb.size⟩
  · refine ⟨y', he, ⟨F, G, F2, G3, s1, ⟨s2.sp, k1, fun b hb' hn => ?_, s2.fk, fun b hb' hn => ?_, s2.kl⟩⟩, row_then h.box hb, h.low, below_then h.top hb⟩
    · have := (P.lt h2.sp b hb').2; have := k2 b hn; omega
    · have := h2.kl b hn; have := k2 b hb'; omega
  · simp only [List.mem_append] at hk
    rcases hk with (hk | hk) | hk
    · exact ⟨.inl (by simp [hk]), Nat.lt_of_lt_of_le (P.lt h2.sp k hk).2 hb.size⟩
    · exact ⟨.inr (k2 k hk), (k1.lt k hk).2⟩
    · exact ⟨.inl (by simp only [List.mem_append]; exact .inr hk), Nat.lt_of_lt_of_le (h1.kl k (by simp only [List.mem_append]; exact .inr hk)) hb.size⟩
end
end Go.Proofs.Yteoekfmjlmpmgaa
