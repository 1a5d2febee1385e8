/- The program's Split, by slices.Collect over what its words tell. No statement is proved here. -/
import Derived.Test.YtgcbcmhdlgklgaaWWordsT
import Derived.Test.YtgcbcmhdlgklgaaWRow
import Derived.RangeFuncBox
namespace Go.Proofs.Ytgcbcmhdlgklgaa
open Go.RowKit Go.Lib
set_option maxRecDepth 100000
attribute [local go_sem] Oper.semAt_some

/-- A box's own blocks: itself, and the row that it holds. -/
def ThB (B : Nat) (A : World) (k : Nat) : Prop := k = B ∨ ∃ v t f, A.heap[B]? = some (.cells #[v] t f) ∧ v.ownBlock = some k
theorem thB_stab {n B : Nat} (hB : B < n) : Stab n (ThB B) := fun A C hz i k => by
  have h := i.same B (by omega) (.inl hB)
  unfold ThB
  rw [h]
/-- The texts that have come, in a row in a box. -/
structure SeqR (w : World) (B : Nat) (pre : List (List Int)) (A : World) : Prop where
  ex : ∃ v, A.heap[B]? = some (.cells #[v] 23 (0, 0)) ∧ OwnS A (B + 1) v pre
  below : Below w.heap.size w A
theorem OwnS.base {w : World} {B B' : Nat} {v : Value} {l : List (List Int)} (h : OwnS w B v l) (hB : B' ≤ B) : OwnS w B' v l := by
  obtain ⟨h1, h2⟩ := h
  refine ⟨h1, ?_⟩
  rcases h2 with h2 | ⟨g, cap, cur, hv, hb, rest⟩
  · exact .inl h2
  · exact .inr ⟨g, cap, cur, hv, by omega, rest⟩
/-- An append whose run is known, within a fence. -/
theorem wpListIn_apRun {F : Fence} {n : Nat} {P : Program} {ops : Array Oper} {rest : List Oper} {o : Oper} {a : Act} {w : World} {Q : Exit → Act → World → Prop} (hgd : o.guard = none) (s x : Operand) (t : TypeId)
    (ho : o.op = .call { callee := .builtin .append, args := #[s, x], argTypes := #[t, t] }) (v u v' : Value) (w' : World) (hs : a.eval s = v) (hx : a.eval x = u) (hr : (Builtin.append_ #[t, t] o.type #[v, u]).run P w = .ok v' w')
    (h : wpListIn F n P ops Q rest (a.put o.dst v') w') : wpListIn F n P ops Q (o :: rest) a w := by
  refine wpListIn_plain hgd fun K hK => ?_
  unfold Oper.wpIn
  refine ⟨by simp [Oper.about, ho, resolve, Target.leads, Sem.run_pure], ?_⟩
  rw [Oper.semAt_plain F _ _ (by rw [ho]; intro c hc; cases hc)]
  unfold execOp
  simp only [ho, resolve, invoke, builtin, Sem.run_bind, Sem.run_pure, Result.andThen_ok, List.map_toArray, List.map_cons, List.map_nil, hs, hx, hr]
  exact hK _ _ h
/-- One text more. -/
theorem apOne (A : World) (B : Nat) (v : Value) (pre : List (List Int)) (x : List Int) (hown : OwnS A B v pre) (hl : pre.length + 1 ≤ 1000000000000) (hB : B ≤ A.heap.size) :
    ∃ v' w', (Builtin.append_ #[23, 23] 23 #[v, .slice (some ⟨A.heap.size, 0, none⟩) 1 1]).run Try.prog (A.alloc (.cells #[.string (strOfNums x)] 9)) = .ok v' w' ∧
      OwnS w' B v' (pre ++ [x]) ∧ (A.alloc (.cells #[.string (strOfNums x)] 9)).grownBy w' v.ownBlock ∧ (v'.ownBlock = v.ownBlock ∨ ∃ g, v'.ownBlock = some g ∧ A.heap.size ≤ g) := by
  obtain ⟨i0, hi0, hz0, hz1, hz2⟩ := info_parts info_str
  obtain ⟨v', w', hr, h1, h2, -, h4⟩ := run_append_own_at (P := Try.prog) (A.alloc (.cells #[.string (strOfNums x)] 9)) B 23 23 9 i0 _ 1 16 Try.underlying23 hi0 hz0 hz1 hz2 rfl (by decide) v pre.length (stV pre) (World.ownsRow.alloc hown _) ⟨A.heap.size, 0, none⟩ 1 1 [.string (strOfNums x)] rfl
    (cell_one_new _ _ _) (by intro u hu; simp at hu; subst hu; rfl) (by unfold maxLen; omega) (by omega) (by simp; omega)
  refine ⟨v', w', hr, ?_, h2, ?_⟩
  · unfold OwnS
    rw [List.length_append, stV_append]
    exact h1
  · rcases h4 with h4 | h4
    · exact .inl h4
    · exact .inr ⟨_, h4, by simp⟩
theorem seq_round {w A w1 : World} {B : Nat} {pre : List (List Int)} {x : List Int} {v v' : Value} {X : Obj} (hB : w.heap.size = B) (hb : Below w.heap.size w A) (hv : A.heap[B]? = some (.cells #[v] 23 (0, 0))) (hown : OwnS A (B + 1) v pre)
    (h1 : OwnS w1 (B + 1) v' (pre ++ [x])) (h2 : (A.alloc X).grownBy w1 v.ownBlock) (h3 : v'.ownBlock = v.ownBlock ∨ ∃ g, v'.ownBlock = some g ∧ A.heap.size ≤ g) :
    w1.heap[B]? = some (.cells #[v] 23 (0, 0)) ∧ Rnd (ThB B) A (w1.setCell ⟨B, 0, none⟩ v') ∧ SeqR w B (pre ++ [x]) (w1.setCell ⟨B, 0, none⟩ v') := by
  have hlt := (Array.getElem?_eq_some_iff.1 hv).1
  have hne : some B ≠ v.ownBlock := fun e => by have := (hown.block B e.symm).1; omega
  have hz := h2.size
  simp at hz
  have old : ∀ k, k < A.heap.size → some k ≠ v.ownBlock → w1.heap[k]? = A.heap[k]? := fun k hk hn => by rw [h2.block k (by simp; omega) hn, Below.heap_alloc _ _ _ hk]
  have e1 : w1.heap[B]? = some (.cells #[v] 23 (0, 0)) := (old B hlt hne).trans hv
  have e2 : (w1.setCell ⟨B, 0, none⟩ v').heap[B]? = some (.cells #[v'] 23 (0, 0)) := by
    have := heap_setCell_same _ _ 0 _ _ v' e1
    simpa using this
  have hzs : (w1.setCell ⟨B, 0, none⟩ v').heap.size = w1.heap.size := by simp [World.setCell]
  refine ⟨e1, ⟨by show w1.os = A.os; exact h2.os, by show w1.tape = A.tape; exact h2.tape, by show w1.output = A.output; exact h2.output, by omega, fun k hk hn => ?_, fun k hk => ?_⟩, ⟨v', e2, h1.keep fun g hg => Below.heap_setCell _ _ _ _ (fun e => by have := (h1.block g hg).1; simp at e; omega)⟩, ?_⟩
  · rw [Below.heap_setCell _ _ _ _ (fun e => hn (.inl e))]
    exact old k hk (fun e => hn (.inr ⟨v, _, _, hv, e.symm⟩))
  · rcases hk with e | ⟨u, t, f, hc, hg⟩
    · exact .inl (.inl e)
    · rw [e2] at hc
      cases hc
      rcases h3 with h3 | ⟨g, h3, h4⟩
      · exact .inl (.inr ⟨v, _, _, hv, by rw [← h3]; exact hg⟩)
      · rw [h3] at hg
        cases hg
        exact .inr h4
  · exact ((hb.alloc (by have := hb.size; omega) X).grown h2 (by have := hb.size; simp; omega) (fun k e => by have := (hown.block k e).1; omega)).setCell (p := ⟨B, 0, none⟩) (by simp; omega) _
set_option maxHeartbeats 4000000 in
theorem appendSeq_any (Arg : Nat → Prop) (g : Nat) (lb : Array Value) (L : List (List Int)) (hL : L.length ≤ 1000000000000) (w0 : World) (hseq : SeqT Try.prog Arg g lb (fun x : List Int => #[.string (strOfNums x)]) L w0) (harg : ∀ k, Arg k → k < w0.heap.size)
    (eg : ∀ args w, (callFunc g args).run Try.prog w = .ok (.enter g args) w) (w : World) (hb0 : Below w0.heap.size w0 w) :
    Calls Try.prog 17 #[.slice none 0 0, .func (.func g) #[] lb] w fun e w' => ∃ v, e = .returned v ∧ OwnS w' w.heap.size v L ∧ Below w.heap.size w w' := by
  refine (callsIn_wide (n := 8)).1 ?_
  refine callsIn_of_wp_marks Try.func17 rfl trivial ?_ rfl
  simp only [Try.ntmps17, List.size_toArray, List.length_cons, List.length_nil, Nat.reduceAdd, Nat.reduceSub, Array.replicate_succ, Array.replicate_zero, List.push_toArray, List.append_toArray, List.nil_append, List.cons_append]
  gi_wp2
  obtain ⟨W1, hW1⟩ : ∃ W1, w.alloc (.cells #[.slice none 0 0] 23) = W1 := ⟨_, rfl⟩
  have b1 : Below w.heap.size w W1 := by rw [← hW1]; exact (Below.refl _ w).alloc (Nat.le_refl _) _
  have z1 : W1.heap.size = w.heap.size + 1 := by rw [← hW1]; simp
  have q1 : W1.heap[w.heap.size]? = some (.cells #[.slice none 0 0] 23 (0, 0)) := by rw [← hW1]; exact heap_alloc_new w _
  rw [hW1]
  have I0 : SeqR w w.heap.size [] W1 := ⟨⟨_, q1, OwnS.nil _ _⟩, b1⟩
  have keep : ∀ pre A C, W1.heap.size ≤ A.heap.size → SeqR w w.heap.size pre A → Itr W1.heap.size (ThB w.heap.size) A C → SeqR w w.heap.size pre C := fun pre A C hz h i => by
    obtain ⟨⟨v, h1, h2⟩, h3⟩ := h
    refine ⟨⟨v, (i.same _ (by omega) (.inl (by omega))).trans h1, h2.keep fun g hg => i.same g (h2.block g hg).2 (.inr (.inr ⟨v, _, _, h1, hg⟩))⟩, i.below (by omega) (by omega) h3⟩
  refine wp_tell (by omega) (gf := g) (lb := lb) rfl eg hseq harg (hb0.trans (b1.mono hb0.size)) (fun _ => rfl) (ThB w.heap.size) (thB_stab (by omega))
    (SeqR w w.heap.size) (fun _ _ _ => False) keep (fun _ _ _ _ _ h _ => h.elim)
    (fun pre A h k hk => by
      obtain ⟨⟨v, h1, h2⟩, h3⟩ := h
      have := hb0.size
      rcases hk with e | ⟨v', t, f, hc, hg⟩
      · subst e
        exact ⟨fun ha => by have := harg _ ha; omega, (Array.getElem?_eq_some_iff.1 h1).1⟩
      · rw [h1] at hc
        cases hc
        have := h2.block k hg
        exact ⟨fun ha => by have := harg _ ha; omega, this.2⟩)
    I0
    (fun x a' A => a' = { tmps := #[.slice none 0 0, .func (.func g) #[] lb, .pointer (some ⟨w.heap.size, 0, none⟩), undef, .slice none 0 0, .string (strOfNums x), .func (.func g) #[] lb, .string (strOfNums x), undef, undef, undef, undef, undef], defers := [] })
    (fun x a' A B _ h _ => h) ?assign ?body ?done ?stop
  case assign =>
    intro l1 pre x A K hz hI hK
    gi_wp2
    exact hK _ _ (Below.refl _ _) rfl
  case body =>
    rintro l1 pre x a' A hz hI rfl hpre
    obtain ⟨⟨v, hv, hown⟩, hb⟩ := hI
    obtain ⟨i0, hi0, hz0, hz1, hz2⟩ := info_parts info_str
    have cb := row_cell hv
    have hlen : pre.length + 1 ≤ L.length := by have := hpre.length_le; simpa using this
    obtain ⟨v', w1, hap, ho1, hg1, hd1⟩ := apOne A (w.heap.size + 1) v pre x hown (by omega) (by have := (Array.getElem?_eq_some_iff.1 hv).1; omega)
    obtain ⟨e1, hr, hs⟩ := seq_round rfl hb hv hown ho1 hg1 hd1
    have c1 := row_cell e1
    obtain ⟨g', cap', hv', -⟩ := ho1.shape
    subst hv'
    rw [show (pre ++ [x]).length = pre.length + 1 by simp] at hap hr hs
    have HE := Lib.hid (And.intro hr hs)
    clear hr hs ho1 hg1 hd1 e1 hown hv hb
    gi_wp2_with (gi_at_builtin; refine wpListIn_apRun rfl (.tmp 8) (.tmp 10) 23 rfl _ _ _ _ rfl rfl hap ?_)
    exact HE.out
  case done =>
    intro D A hD hI hr hd hK
    obtain ⟨⟨v, hv, hown⟩, hb⟩ := hI
    have cb := row_cell hv
    have HE := Lib.hid (show OwnS (A.putObj D (.deferred none)) w.heap.size v L ∧ Below w.heap.size w (A.putObj D (.deferred none)) from by
      have hD2 := (Array.getElem?_eq_some_iff.1 hK).1
      refine ⟨?_, hb.trans ((Below.refl w.heap.size A).grown (grownBy_putObj' A D _) (by omega) (fun k e => by cases e; omega))⟩
      have h1 := hown.keep (w' := A.putObj D (.deferred none)) fun g hg => World.putObj_heap_other (fun e => by
        subst e
        rcases hown.2 with ⟨hv, _⟩ | ⟨g', cap, cur, hv, hb', hc, _⟩
        · rw [hv] at hg; cases hg
        · rw [hv] at hg
          injection hg with hg
          subst hg
          rw [hK] at hc
          cases hc)
      exact OwnS.base h1 (by omega))
    clear hr hd hb hown
    gi_wp2
    refine ⟨by simp, .inl ⟨_, _, rfl, run_takeDeferred hK, ?_⟩⟩
    refine ⟨v, ?_, v, rfl, HE.out.1, HE.out.2⟩
    exact (results_tmp (fn := Try.f17) (t := 4) rfl _ _ _)
  case stop =>
    intro D cc pre A hD hpre hI hr hd hK
    exact hI.elim
theorem collect_any (Arg : Nat → Prop) (g : Nat) (lb : Array Value) (L : List (List Int)) (hL : L.length ≤ 1000000000000) (w0 : World) (hseq : SeqT Try.prog Arg g lb (fun x : List Int => #[.string (strOfNums x)]) L w0) (harg : ∀ k, Arg k → k < w0.heap.size)
    (eg : ∀ args w, (callFunc g args).run Try.prog w = .ok (.enter g args) w) (w : World) (hb0 : Below w0.heap.size w0 w) :
    Calls Try.prog 12 #[.func (.func g) #[] lb] w fun e w' => ∃ v, e = .returned v ∧ OwnS w' w.heap.size v L ∧ Below w.heap.size w w' := by
  have hA := Lib.hid (appendSeq_any Arg g lb L hL w0 hseq harg eg w hb0)
  clear hseq eg
  go_enter Try.func12, Try.ntmps12
  go_wp2_with (go_at_call 17; refine hA.out.mono ?_; rintro e w' ⟨v, rfl, ho, hb⟩)
  have HE := Lib.hid (And.intro ho hb)
  clear ho hb
  go_wp2_with fail
  go_ret
  exact ⟨v, rfl, HE.out⟩
/-- The program's Split. -/
theorem psplit_any (s : ByteArray) (w : World) (hs : s.size ≤ 562949953421312) : Calls Try.prog 6 #[.string s] w fun e w' => ∃ v, e = .returned v ∧ OwnS w' w.heap.size v (splitL (bsI s)) ∧ Below w.heap.size w w' := by
  obtain ⟨W1, hW1⟩ : ∃ W1, w.alloc (.cells #[.string s] 9) = W1 := ⟨_, rfl⟩
  have b1 : Below w.heap.size w W1 := by rw [← hW1]; exact (Below.refl _ w).alloc (Nat.le_refl _) _
  have z1 : W1.heap.size = w.heap.size + 1 := by rw [← hW1]; simp
  have q1 : W1.heap[w.heap.size]? = some (.cells #[.string s] 9 (0, 0)) := by rw [← hW1]; exact heap_alloc_new w _
  have hW := Lib.hid (words_any s w)
  have hC := Lib.hid (collect_any (fun k => k = w.heap.size) 18 #[.pointer (some ⟨w.heap.size, 0, none⟩)] (splitL (bsI s)) (by have := splitL_len (bsI s); omega) W1 (words_tell s (by omega) w.heap.size W1 q1) (fun k hk => by subst hk; omega)
    (enters_of Try.func18 (by kernel_rfl) rfl) W1 (Below.refl _ _))
  have HB := Lib.hid b1
  clear b1 q1
  go_enter Try.func6, Try.ntmps6
  go_wp2_with (first
    | (go_at_call 13; refine hW.out.mono ?_; rintro e w' ⟨rfl, rfl⟩)
    | (go_at_call 12; refine hC.out.mono ?_; rintro e w' ⟨v, rfl, ho, hb⟩))
  have HE := Lib.hid (And.intro (OwnS.base ho (by omega : w.heap.size ≤ W1.heap.size)) (HB.out.trans (hb.mono (by omega))))
  clear ho hb
  go_wp2_with fail
  go_ret
  exact ⟨v, rfl, HE.out⟩
#print axioms psplit_any
end Go.Proofs.Ytgcbcmhdlgklgaa
