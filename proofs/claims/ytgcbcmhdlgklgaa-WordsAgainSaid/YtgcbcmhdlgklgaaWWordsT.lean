/- The program's words: what its iterator tells. No statement is proved here. -/
import Derived.Test.YtgcbcmhdlgklgaaWRowsT
import Derived.Test.YtgcbcmhdlgklgaaWFold
namespace Go.Proofs.Ytgcbcmhdlgklgaa
open Go.RowKit Go.Lib
set_option maxRecDepth 100000
attribute [local go_sem] Oper.semAt_some

theorem words_any (s : ByteArray) (w : World) : Calls Try.prog 13 #[.string s] w fun e w' => e = .returned (.func (.func 18) #[] #[.pointer (some ⟨w.heap.size, 0, none⟩)]) ∧ w' = w.alloc (.cells #[.string s] 9) := by
  go_enter Try.func13, Try.ntmps13
  go_wp2_with fail
  go_ret
  exact ⟨rfl, rfl⟩
/-- The words of the rows that have come. -/
def wordsOf (pre : List (List Int)) : List (List Int) := pre.flatMap wordOf
/-- Between two rounds of the loop over the rows. -/
structure WordsR (s : ByteArray) (sb l : Nat) (w W : World) (Th : World → Nat → Prop) (J : List (List Int) → World → Prop) (pre : List (List Int)) (wr : World) : Prop where
  tell : wr.heap[W.heap.size]? = some (.cells #[.func (.yield l) #[] #[]] 54 (0, 0))
  left : ∃ k : Nat, (wordsOf pre).length + k = 200 ∧ 1 ≤ k ∧ wr.heap[W.heap.size + 1]? = some (.cells #[.int .i64 (k : Int)] 3 (0, 0))
  told : J (wordsOf pre) wr
  far : Sofar (fun k => k = sb) w Th W wr
  mine : ¬ Th wr W.heap.size ∧ ¬ Th wr (W.heap.size + 1) ∧ ¬ Th wr (W.heap.size + 2)
section
variable {s : ByteArray} {sb l : Nat} {w W : World} {Th : World → Nat → Prop} {J Jx : List (List Int) → World → Prop}
abbrev ToldW (s : ByteArray) (sb l : Nat) (w W : World) (Th : World → Nat → Prop) (J Jx : List (List Int) → World → Prop) : Prop := Told Try.prog (fun k => k = sb) (fun x : List Int => #[.string (strOfNums x)]) (splitL (bsI s)) w l Th J Jx W
theorem WordsR.itr (T : ToldW s sb l w W Th J Jx) {pre : List (List Int)} {A B : World} (h : WordsR s sb l w W Th J pre A) (i : Itr (W.heap.size + 3) (fun A k => k = W.heap.size + 1 ∨ Th A k) A B) : WordsR s sb l w W Th J pre B := by
  have hz : W.heap.size + 1 < A.heap.size := by obtain ⟨k, -, -, h2⟩ := h.left; exact (Array.getElem?_eq_some_iff.1 h2).1
  have i' : Itr W.heap.size Th A B := ⟨i.os, i.tape, i.output, i.size, fun k hk hc => i.same k hk (hc.imp (fun h => by omega) .inr)⟩
  obtain ⟨h1, h2, h3⟩ := T.own h.far h.told i'
  refine ⟨(i.same _ (by omega) (.inl (by omega))).trans h.tell, ?_, h2, h1, h3 _ h.mine.1, h3 _ h.mine.2.1, h3 _ h.mine.2.2⟩
  obtain ⟨k, e1, e2, e3⟩ := h.left
  exact ⟨k, e1, e2, (i.same _ hz (.inl (by omega))).trans e3⟩
theorem wordsOf_snoc (pre : List (List Int)) (c : List Int) : wordsOf (pre ++ [c]) = wordsOf pre ++ wordOf c := by unfold wordsOf; rw [List.flatMap_append]; simp
theorem wordsOf_pre {pre : List (List Int)} (h : pre <+: rowsS (bsI s) []) : wordsOf pre <+: wordsL (bsI s) := by
  obtain ⟨r, hr⟩ := h
  exact ⟨wordsOf r, by rw [← words_rows (isB_bsI s), ← hr]; unfold wordsOf; rw [List.flatMap_append]⟩
theorem split_pre {a : List (List Int)} (h : a <+: wordsL (bsI s)) (hl : a.length ≤ 200) : a <+: splitL (bsI s) := by
  unfold splitL
  have := (List.prefix_iff_eq_take.1 h)
  rw [this]
  exact (List.take_prefix_take_left (by omega))
theorem split_full {a : List (List Int)} (h : a <+: wordsL (bsI s)) (hl : a.length = 200) : a = splitL (bsI s) := by
  unfold splitL
  have := (List.prefix_iff_eq_take.1 h)
  rw [hl] at this
  exact this
theorem split_all {a : List (List Int)} (h : a = wordsL (bsI s)) (hl : a.length ≤ 200) : a = splitL (bsI s) := by
  unfold splitL
  rw [← h, List.take_of_length_le hl]
end
theorem round_in {m l : Nat} {P : Program} {fn : FuncId} {tmps : Array Value} {assign body : Code} {W : World} {R : Ending → World → Prop} (l1 : Nat) (h : RoundIn Fence.wide m P l fn tmps assign body W R) : RoundIn (Fence.wide.inRound l1) m P l fn tmps assign body W R := h
/-- What a round does once a word has been folded: the body's word to the rows' iterator. -/
theorem words_round {s : ByteArray} {sb l : Nat} {w W : World} {Th : World → Nat → Prop} {J Jx : List (List Int) → World → Prop} (T : ToldW s sb l w W Th J Jx) {pre : List (List Int)} {c : List Int} {A : World} {j : Nat}
    (hI : WordsR s sb l w W Th J pre A) (hpre : pre ++ [c] <+: rowsS (bsI s) []) (h40 : c.length ≤ 40) (hk : (wordsOf pre).length + (j + 1) = 200) (hleft : A.heap[W.heap.size + 1]? = some (.cells #[.int .i64 ((j + 1 : Nat) : Int)] 3 (0, 0)))
    (hzA : W.heap.size + 3 ≤ A.heap.size) (w2 : World) (b2 : Below A.heap.size (A.setCell ⟨W.heap.size + 1, 0, none⟩ (.int .i64 (j : Int))) w2) :
    (w2.cell? ⟨W.heap.size, 0, none⟩ = some (.func (.yield l) #[] #[]) ∧ w2.frozen? ⟨W.heap.size, 0, none⟩ = false) ∧
    ∃ fn tmps assign body, (Instr.yield l #[.string (strOfNums (foldB c))]).run Try.prog w2 = .ok (.round l fn tmps assign body) w2 ∧ ∀ m, RoundIn Fence.wide m Try.prog l fn tmps assign body w2 fun e B =>
      (e = .returned (.bool true) ∧ (B.cell? ⟨W.heap.size + 1, 0, none⟩ = some (.int .i64 (j : Int)) ∧ B.frozen? ⟨W.heap.size + 1, 0, none⟩ = false) ∧ Rnd (fun A k => k = W.heap.size + 1 ∨ Th A k) A B ∧ Sofar (fun k => k = sb) w Th W B ∧ J (wordsOf (pre ++ [c])) B ∧ (1 ≤ j → WordsR s sb l w W Th J (pre ++ [c]) B)) ∨
      (e = .returned (.bool false) ∧ Rnd (fun A k => k = W.heap.size + 1 ∨ Th A k) A B ∧ Sofar (fun k => k = sb) w Th W B ∧ Jx (wordsOf (pre ++ [c])) B) := by
  have hw := wordsOf_snoc pre c
  have hwp := wordsOf_pre hpre
  have e1 : wordOf c = [foldB c] := by rw [wordOf, if_pos h40]
  rw [hw, e1] at hwp
  rw [hw, e1]
  have hlz := (Array.getElem?_eq_some_iff.1 hleft).1
  have iA : Itr W.heap.size Th A (A.setCell ⟨W.heap.size + 1, 0, none⟩ (.int .i64 (j : Int))) := itr_setCell _ (by simp) hI.mine.2.1
  have hz1 : (A.setCell ⟨W.heap.size + 1, 0, none⟩ (.int .i64 (j : Int))).heap.size = A.heap.size := by simp [World.setCell]
  have i2 : Itr W.heap.size Th A w2 := ⟨b2.os.trans iA.os, b2.tape.trans iA.tape, b2.output.trans iA.output, by have := b2.size; omega, fun k hk hc => (b2.block k hk).trans (iA.same k hk hc)⟩
  obtain ⟨f2, j2, m2⟩ := T.own hI.far hI.told i2
  have l2 : w2.heap[W.heap.size + 1]? = some (.cells #[.int .i64 (j : Int)] 3 (0, 0)) := by
    rw [b2.block _ hlz]
    have := heap_setCell_same _ _ 0 _ _ (.int .i64 (j : Int)) hleft
    simpa using this
  have t2 : w2.heap[W.heap.size]? = some (.cells #[.func (.yield l) #[] #[]] 54 (0, 0)) := by
    rw [b2.block _ (by omega), Below.heap_setCell _ _ _ _ (by simp)]
    exact hI.tell
  have z2 : A.heap.size ≤ w2.heap.size := i2.size
  refine ⟨row_cell t2, ?_⟩
  obtain ⟨fn, tmps, assign, body, hy, hRd⟩ := T.yields (wordsOf pre) (foldB c) w2 j2 (split_pre hwp (by simp; omega))
  refine ⟨fn, tmps, assign, body, hy, fun m => (yield_round (m' := m) hRd).mono ?_⟩
  rintro e B ⟨r, hj⟩
  obtain ⟨fB, kB⟩ := T.round f2 j2 r
  obtain ⟨mB, eB⟩ := kB _ (by omega) (m2 _ hI.mine.2.1)
  obtain ⟨mB0, eB0⟩ := kB _ (by omega) (m2 _ hI.mine.1)
  have mB2 : ¬ Th B (W.heap.size + 2) := fun hc => (r.own _ hc).elim (m2 _ hI.mine.2.2) (fun h => by omega)
  have hr : Rnd (fun A k => k = W.heap.size + 1 ∨ Th A k) A B := by
    refine ⟨r.os.trans i2.os, r.tape.trans i2.tape, r.output.trans i2.output, Nat.le_trans i2.size r.size, fun k hk hn => ?_, fun k hk => ?_⟩
    · rw [r.same k (by omega) (fun hc => hn (.inr ((T.stab _ _ hI.far.size i2 k).1 hc))), b2.block k hk, Below.heap_setCell _ _ _ _ (fun e => hn (.inl e))]
    · rcases hk with e | hk
      · exact .inl (.inl e)
      · rcases r.own k hk with h | h
        · exact .inl (.inr ((T.stab _ _ hI.far.size i2 k).1 h))
        · exact .inr (by omega)
  rcases hj with ⟨rfl, jB⟩ | ⟨rfl, jB⟩
  · refine .inl ⟨rfl, row_cell (eB.trans l2), hr, fB, jB, fun h1 => ⟨eB0.trans t2, ⟨j, by rw [hw, e1, List.length_append]; simp; omega, h1, eB.trans l2⟩, by rw [hw, e1]; exact jB, fB, mB0, mB, mB2⟩⟩
  · exact .inr ⟨rfl, hr, fB, jB⟩
set_option maxHeartbeats 4000000 in
theorem words_tell (s : ByteArray) (hs : s.size ≤ 562949953421312) (sb : Nat) (w : World) (hb : w.heap[sb]? = some (.cells #[.string s] 9 (0, 0))) :
    SeqT Try.prog (fun k => k = sb) 18 #[.pointer (some ⟨sb, 0, none⟩)] (fun x : List Int => #[.string (strOfNums x)]) (splitL (bsI s)) w := by
  refine SeqT.of ?_
  intro l Th J Jx W T
  have hsb : sb < w.heap.size := (Array.getElem?_eq_some_iff.1 hb).1
  show Calls _ _ #[.func (.yield l) #[] #[], .pointer (some ⟨sb, 0, none⟩)] _ _
  refine (callsIn_wide (n := 8)).1 ?_
  refine callsIn_of_wp_marks Try.func18 rfl trivial ?_ rfl
  simp only [Try.ntmps18, List.size_toArray, List.length_cons, List.length_nil, Nat.reduceAdd, Nat.reduceSub, Array.replicate_succ, Array.replicate_zero, List.push_toArray, List.append_toArray, List.nil_append, List.cons_append]
  obtain ⟨W0, hW0⟩ : ∃ W0, ((W.alloc (.cells #[.func (.yield l) #[] #[]] 54)).alloc (.cells #[.int .i64 200] 3)) = W0 := ⟨_, rfl⟩
  have b0 : Below W.heap.size W W0 := by rw [← hW0]; exact ((Below.refl _ W).alloc (Nat.le_refl _) _).alloc (by simp) _
  have z0 : W0.heap.size = W.heap.size + 2 := by rw [← hW0]; simp
  have q1 : W0.heap[W.heap.size]? = some (.cells #[.func (.yield l) #[] #[]] 54 (0, 0)) := by rw [← hW0]; exact (Below.heap_alloc _ _ _ (by simp)).trans (heap_alloc_new W _)
  have q2 : W0.heap[W.heap.size + 1]? = some (.cells #[.int .i64 200] 3 (0, 0)) := by rw [← hW0]; have := heap_alloc_new (W.alloc (.cells #[.func (.yield l) #[] #[]] 54)) (.cells #[.int .i64 200] 3); rw [World.size_alloc] at this; exact this
  have q3 : W0.heap[sb]? = some (.cells #[.string s] 9 (0, 0)) := (b0.block _ (by have := T.below.size; omega)).trans ((T.below.block _ hsb).trans hb)
  have cs := row_cell q3
  have hR := Lib.hid (rows_any s W0)
  have hrf : Fence.wide.fn 19 := trivial
  have HT := Lib.hid T
  have HQ := Lib.hid (And.intro b0 (And.intro q1 q2))
  clear T b0 q1 q2 q3
  gi_wp2_with (gi_at_call 19; refine (callsIn_wide.2 hR.out).mono ?_; rintro e w1 ⟨rfl, rfl⟩)
  obtain ⟨W1, hW1⟩ : ∃ W1, W0.alloc (.cells #[.string s] 9) = W1 := ⟨_, rfl⟩
  have b1 : Below W.heap.size W W1 := by rw [← hW1]; exact HQ.out.1.alloc (by omega) _
  have z1 : W1.heap.size = W.heap.size + 3 := by rw [← hW1]; simp; omega
  have q1 : W1.heap[W.heap.size]? = some (.cells #[.func (.yield l) #[] #[]] 54 (0, 0)) := by rw [← hW1]; exact (Below.heap_alloc _ _ _ (by omega)).trans HQ.out.2.1
  have q2 : W1.heap[W.heap.size + 1]? = some (.cells #[.int .i64 200] 3 (0, 0)) := by rw [← hW1]; exact (Below.heap_alloc _ _ _ (by omega)).trans HQ.out.2.2
  have q3 : W1.heap[W.heap.size + 2]? = some (.cells #[.string s] 9 (0, 0)) := by rw [← hW1]; have := heap_alloc_new W0 (.cells #[.string s] 9); rw [z0] at this; exact this
  rw [hW1]
  have i1 : Itr W.heap.size Th W W1 := .of_below b1
  obtain ⟨f1, j1, m1⟩ := HT.out.own HT.out.sofar HT.out.start i1
  have h0 : WordsR s sb l w W Th J [] W1 := ⟨q1, ⟨200, rfl, by omega, q2⟩, j1, f1, m1 _ (HT.out.fresh HT.out.start (by omega)), m1 _ (HT.out.fresh HT.out.start (by omega)), m1 _ (HT.out.fresh HT.out.start (by omega))⟩
  refine wp_tell (by omega) (gf := 26) (lb := #[.pointer (some ⟨W.heap.size + 2, 0, none⟩)]) rfl (enters_of Try.func26 (by kernel_rfl) rfl)
    (rows_tell s hs (W.heap.size + 2) W1 q3) (fun k hk => by subst hk; omega) (Below.refl _ _) (fun _ => rfl) (fun A k => k = W.heap.size + 1 ∨ Th A k)
    (fun A B hz i k => by
      have i' : Itr W.heap.size Th A B := ⟨i.os, i.tape, i.output, i.size, fun k hk hc => i.same k hk (hc.imp (fun h => by omega) .inr)⟩
      exact ⟨fun h => h.imp id (HT.out.stab _ _ (by omega) i' k).1, fun h => h.imp id (HT.out.stab _ _ (by omega) i' k).2⟩)
    (fun pre A => WordsR s sb l w W Th J pre A) (fun c pre A => c = .ret ∧ ∃ q, Sofar (fun k => k = sb) w Th W A ∧ ((q = splitL (bsI s) ∧ J q A) ∨ (q <+: splitL (bsI s) ∧ Jx q A)))
    (fun pre A B hz h i => h.itr HT.out (by rw [← z1]; exact i))
    (fun c pre A B hz h i => by
      have i' : Itr W.heap.size Th A B := ⟨i.os, i.tape, i.output, i.size, fun k hk hc => i.same k hk (hc.imp (fun h => by omega) .inr)⟩
      obtain ⟨hc, q, hf, (⟨e, hj⟩ | ⟨e, hj⟩)⟩ := h
      · obtain ⟨h1, h2, -⟩ := HT.out.own hf hj i'
        exact ⟨hc, q, h1, .inl ⟨e, h2⟩⟩
      · obtain ⟨h1, h2⟩ := HT.out.ownx hf hj i'
        exact ⟨hc, q, h1, .inr ⟨e, h2⟩⟩)
    (fun pre A h k hk => by
      rcases hk with e | hk
      · subst e
        obtain ⟨n, -, -, h2⟩ := h.left
        exact ⟨by omega, (Array.getElem?_eq_some_iff.1 h2).1⟩
      · exact ⟨fun e => by subst e; exact h.mine.2.2 hk, (HT.out.lt _ _ h.told k hk).2⟩)
    h0
    (fun x a' A => a' = { tmps := #[.func (.yield l) #[] #[], .pointer (some ⟨sb, 0, none⟩), .pointer (some ⟨W.heap.size, 0, none⟩), .pointer (some ⟨W.heap.size + 1, 0, none⟩), .string (strOfNums x), .string s, .func (.func 26) #[] #[.pointer (some ⟨W.heap.size + 2, 0, none⟩)], .string (strOfNums x), undef, undef, undef, undef, undef, undef, undef, undef, undef, undef, undef, undef, undef, undef], defers := [] })
    (fun x a' A B _ h _ => h) ?assign ?body ?done ?stop
  case assign =>
    intro l1 pre x A K hz hI hK
    gi_wp2
    exact hK _ _ (Below.refl _ _) rfl
  case body =>
    rintro l1 pre c a' A hz hI rfl hpre
    have hrow := rows_are (bsI s) (isB_bsI s) c (hpre.subset (by simp))
    obtain ⟨k, hk, hk1, hleft⟩ := hI.left
    have ct := row_cell hI.tell
    have cl := row_cell hleft
    have hsz := strOf_size c
    have hw := wordsOf_snoc pre c
    have hwp := wordsOf_pre hpre
    rw [hw] at hwp
    have HI := Lib.hid (And.intro hI (And.intro hpre (And.intro hrow (And.intro hk (And.intro hleft (And.intro hw hwp))))))
    clear hI hpre hrow hleft hw hwp
    by_cases h40 : c.length ≤ 40
    · obtain ⟨j, rfl⟩ : ∃ j, k = j + 1 := ⟨k - 1, by omega⟩
      have hj : (j : Int) ≤ 199 := by have := HI.out.2.2.2.1; omega
      rw [show ((j + 1 : Nat) : Int) = (j : Int) + 1 by omega] at cl
      obtain ⟨A1, hA1⟩ : ∃ A1, A.setCell ⟨W.heap.size + 1, 0, none⟩ (.int .i64 (j : Int)) = A1 := ⟨_, rfl⟩
      have HA := Lib.hid hA1
      gi_wp2_with fail
      refine wpIn_region_any (by kernel_rfl) ?_
      change wpAnyIn _ _ _ _ _ _ _ _ _ A1.drew
      have hz1 : A1.heap.size = A.heap.size := by rw [← HA.out]; simp [World.setCell]
      have HL := Lib.hid (fun w2 (b2 : Below A1.heap.size A1 w2) => words_round HT.out HI.out.1 HI.out.2.1 h40 HI.out.2.2.2.1 HI.out.2.2.2.2.1 (by omega) w2 (by rw [← hz1, HA.out]; exact b2))
      have hrow := HI.out.2.2.1
      have hFo := Lib.hid (fold_any (strOfNums c) (by rw [hsz]; exact hrow.1) (by omega) (by rw [bsI_str hrow.isB]; exact hrow.runes) A1.drew)
      rw [bsI_str hrow.isB] at hFo
      have ct1 := (HL.out A1.drew (Below.drew (Below.refl _ _))).1
      clear hrow
      refine wpAnyIn_ready (rs := [0, 1]) (by kernel_rfl) (by simp) ?_
      refine AllReadyIn.cons rfl (fun K hK => ?oA) (AllReadyIn.cons rfl (fun K hK => ?oB) AllReadyIn.nil)
      case' oA =>
        go_simp
        refine hK _ _ ?_
        clear hK K
        refine wpAnyIn_ready (rs := [1]) (by kernel_rfl) (by simp) ?_
        refine AllReadyIn.cons rfl (fun K hK => ?_) AllReadyIn.nil
        go_simp
        refine hK _ _ ?_
        clear hK K
        refine wpAnyIn_ready (rs := [2]) (by kernel_rfl) (by simp) ?_
        refine AllReadyIn.cons rfl (fun K hK => ?_) AllReadyIn.nil
        go_simp
        refine ⟨trivial, (CallsIn.inRound l1 (callsIn_wide.2 hFo.out)).mono ?_⟩
        rintro e w2 ⟨rfl, b2⟩
        have b2 : Below A1.heap.size A1 w2 := ⟨b2.os, b2.tape, b2.output, b2.size, b2.block⟩
        refine hK _ _ ?_
        clear hK K
      case' oB =>
        go_simp
        refine hK _ _ ?_
        clear hK K
        refine wpAnyIn_ready (rs := [0, 2]) (by kernel_rfl) (by simp) ?_
        refine AllReadyIn.cons rfl (fun K hK => ?oC) (AllReadyIn.cons rfl (fun K hK => ?oD) AllReadyIn.nil)
        case' oC =>
          go_simp
          refine hK _ _ ?_
          clear hK K
          refine wpAnyIn_ready (rs := [2]) (by kernel_rfl) (by simp) ?_
          refine AllReadyIn.cons rfl (fun K hK => ?_) AllReadyIn.nil
          go_simp
          refine ⟨trivial, (CallsIn.inRound l1 (callsIn_wide.2 hFo.out)).mono ?_⟩
          rintro e w2 ⟨rfl, b2⟩
          have b2 : Below A1.heap.size A1 w2 := ⟨b2.os, b2.tape, b2.output, b2.size, b2.block⟩
          refine hK _ _ ?_
          clear hK K
        case' oD =>
          go_simp
          refine ⟨trivial, (CallsIn.inRound l1 (callsIn_wide.2 hFo.out)).mono ?_⟩
          rintro e w2 ⟨rfl, b2⟩
          have b2 : Below A1.heap.size A1 w2 := ⟨b2.os, b2.tape, b2.output, b2.size, b2.block⟩
          refine hK _ _ ?_
          clear hK K
          have ct2 := (HL.out w2 b2).1
          refine wpAnyIn_ready (rs := [0]) (by kernel_rfl) (by simp) ?_
          refine AllReadyIn.cons rfl (fun K hK => ?_) AllReadyIn.nil
          go_simp
          refine hK _ _ ?_
          clear hK K ct2
      all_goals
        obtain ⟨-, fn, tmps, assign, body, hy, hRd⟩ := HL.out w2 b2
        have hRd := Lib.hid hRd
        refine wpAnyIn_ready (rs := [3]) (by kernel_rfl) (by simp) ?_
        refine AllReadyIn.cons rfl (fun K hK => ?_) AllReadyIn.nil
        go_simp
        refine (round_in l1 (hRd.out _)).mono ?_
        rintro e B (⟨rfl, clB, rB, fB, jB, wB⟩ | ⟨rfl, rB, fB, jB⟩)
        · refine hK _ _ ?_
          clear hK K
          have HB := Lib.hid (And.intro rB (And.intro fB (And.intro jB wB)))
          clear rB fB jB wB
          have hsp : Hid (j = 0 → wordsOf (pre ++ [c]) = splitL (bsI s)) := fun h0 => by
            have h1 := HI.out.2.2.2.2.2.2
            rw [← HI.out.2.2.2.2.2.1] at h1
            have h2 := HI.out.2.2.2.1
            refine split_full h1 ?_
            rw [HI.out.2.2.2.2.2.1, wordOf, if_pos h40, List.length_append]
            simp
            omega
          rcases Nat.eq_zero_or_pos j with hj0 | hj0
          · have hjz : (j : Int) = 0 := by omega
            rw [hjz] at clB
            clear hjz
            refine wpAnyIn_ready (rs := [4]) (by kernel_rfl) (by simp) ?_
            refine AllReadyIn.cons rfl (fun K hK => ?_) AllReadyIn.nil
            go_simp
            refine hK _ _ ?_
            clear hK K
            refine wpAnyIn_ready (rs := [5]) (by kernel_rfl) (by simp) ?_
            refine AllReadyIn.cons rfl (fun K hK => ?_) AllReadyIn.nil
            go_simp
            refine hK _ _ ?_
            clear hK K
            refine wpAnyIn_ready (rs := [6]) (by kernel_rfl) (by simp) ?_
            refine AllReadyIn.cons rfl (fun K hK => ?_) AllReadyIn.nil
            go_simp
            refine hK _ _ ?_
            clear hK K
            refine wpAnyIn_ready (rs := [7]) (by kernel_rfl) (by simp) ?_
            refine AllReadyIn.cons rfl (fun K hK => ?_) AllReadyIn.nil
            go_simp
            refine hK _ _ ?_
            clear hK K
            refine wpAnyIn_ready (rs := [8]) (by kernel_rfl) (by simp) ?_
            refine AllReadyIn.cons rfl (fun K hK => ?_) AllReadyIn.nil
            go_simp
            refine hK _ _ ?_
            clear hK K
            refine wpAnyIn_done (by kernel_rfl) ?_ _
            gi_wp2
            exact ⟨HB.out.1, rfl, _, HB.out.2.1, .inl ⟨rfl, by rw [← hsp.out hj0]; exact HB.out.2.2.1⟩⟩
          · have hjz : ((j : Int) == 0) = false := by simp; omega
            have hjn : ¬ ((j : Int) = 0) := by omega
            refine wpAnyIn_ready (rs := [4]) (by kernel_rfl) (by simp) ?_
            refine AllReadyIn.cons rfl (fun K hK => ?_) AllReadyIn.nil
            go_simp
            refine hK _ _ ?_
            clear hK K
            refine wpAnyIn_ready (rs := [5]) (by kernel_rfl) (by simp) ?_
            refine AllReadyIn.cons rfl (fun K hK => ?_) AllReadyIn.nil
            go_simp
            refine hK _ _ ?_
            clear hK K
            refine wpAnyIn_ready (rs := [6]) (by kernel_rfl) (by simp) ?_
            refine AllReadyIn.cons rfl (fun K hK => ?_) AllReadyIn.nil
            go_simp
            refine hK _ _ ?_
            clear hK K
            refine wpAnyIn_ready (rs := [7]) (by kernel_rfl) (by simp) ?_
            refine AllReadyIn.cons rfl (fun K hK => ?_) AllReadyIn.nil
            go_simp
            refine hK _ _ ?_
            clear hK K
            refine wpAnyIn_ready (rs := [8]) (by kernel_rfl) (by simp) ?_
            refine AllReadyIn.cons rfl (fun K hK => ?_) AllReadyIn.nil
            go_simp
            refine hK _ _ ?_
            clear hK K
            refine wpAnyIn_done (by kernel_rfl) ?_ _
            gi_wp2
            exact ⟨HB.out.1, HB.out.2.2.2 hj0⟩
        · refine hK _ _ ?_
          clear hK K
          have HB := Lib.hid (And.intro rB (And.intro fB jB))
          clear rB fB jB
          refine wpAnyIn_ready (rs := [4]) (by kernel_rfl) (by simp) ?_
          refine AllReadyIn.cons rfl (fun K hK => ?_) AllReadyIn.nil
          go_simp
          refine hK _ _ ?_
          clear hK K
          refine wpAnyIn_ready (rs := [5]) (by kernel_rfl) (by simp) ?_
          refine AllReadyIn.cons rfl (fun K hK => ?_) AllReadyIn.nil
          go_simp
          refine hK _ _ ?_
          clear hK K
          refine wpAnyIn_ready (rs := [6]) (by kernel_rfl) (by simp) ?_
          refine AllReadyIn.cons rfl (fun K hK => ?_) AllReadyIn.nil
          go_simp
          refine hK _ _ ?_
          clear hK K
          refine wpAnyIn_ready (rs := [7]) (by kernel_rfl) (by simp) ?_
          refine AllReadyIn.cons rfl (fun K hK => ?_) AllReadyIn.nil
          go_simp
          refine hK _ _ ?_
          clear hK K
          refine wpAnyIn_ready (rs := [8]) (by kernel_rfl) (by simp) ?_
          refine AllReadyIn.cons rfl (fun K hK => ?_) AllReadyIn.nil
          go_simp
          refine hK _ _ ?_
          clear hK K
          refine wpAnyIn_done (by kernel_rfl) ?_ _
          gi_wp2
          refine ⟨HB.out.1, rfl, _, HB.out.2.1, .inr ⟨?_, HB.out.2.2⟩⟩
          have h1 := HI.out.2.2.2.2.2.2
          rw [← HI.out.2.2.2.2.2.1] at h1
          have h2 := HI.out.2.2.2.1
          refine split_pre h1 ?_
          rw [HI.out.2.2.2.2.2.1, wordOf, if_pos h40, List.length_append]
          simp
          omega
    · gi_wp2
      refine ⟨Rnd.refl _ _, ?_⟩
      have hw : wordsOf (pre ++ [c]) = wordsOf pre := by rw [HI.out.2.2.2.2.2.1, wordOf, if_neg h40, List.append_nil]
      have hI := HI.out.1
      exact ⟨hI.tell, by rw [hw]; exact hI.left, by rw [hw]; exact hI.told, hI.far, hI.mine⟩
  case done =>
    intro D A hD hI hr hd hK
    have iD : Itr W.heap.size Th A (A.putObj D (.deferred none)) := itr_putObj _ (by omega) (fun h => hd (.inr h))
    have hall : wordsOf (rowsS (bsI s) []) = splitL (bsI s) := by
      refine split_all (by unfold wordsOf; rw [words_rows (isB_bsI s)]) ?_
      obtain ⟨k, h1, -, -⟩ := hI.left
      omega
    obtain ⟨h1, h2, -⟩ := HT.out.own hI.far hI.told iD
    rw [hall] at h2
    have HE := Lib.hid (And.intro h1 h2)
    clear h1 h2 hI hr hd hall
    gi_wp2
    refine ⟨by simp, .inl ⟨_, _, rfl, run_takeDeferred hK, ?_⟩⟩
    exact ⟨_, results_none rfl _ _ _, ⟨_, rfl⟩, HE.out.1.rnd, .inl HE.out.2⟩
  case stop =>
    intro D cc pre A hD hpre hI hr hd hK
    obtain ⟨rfl, q, hf, hq⟩ := hI
    have iD : Itr W.heap.size Th A (A.putObj D (.deferred none)) := itr_putObj _ (by omega) (fun h => hd (.inr h))
    have HE : Hid (Rnd Th W (A.putObj D (.deferred none)) ∧ (J (splitL (bsI s)) (A.putObj D (.deferred none)) ∨ ∃ pre, pre <+: splitL (bsI s) ∧ Jx pre (A.putObj D (.deferred none)))) := by
      rcases hq with ⟨rfl, hj⟩ | ⟨h1, hj⟩
      · obtain ⟨h1, h2, -⟩ := HT.out.own hf hj iD
        exact ⟨h1.rnd, .inl h2⟩
      · obtain ⟨h2, h3⟩ := HT.out.ownx hf hj iD
        exact ⟨h2.rnd, .inr ⟨q, h1, h3⟩⟩
    clear hf hq hr hd
    gi_wp2
    refine ⟨by simp, .inl ⟨_, _, rfl, run_takeDeferred hK, ?_⟩⟩
    exact ⟨_, results_none rfl _ _ _, ⟨_, rfl⟩, HE.out⟩
#print axioms words_tell
end Go.Proofs.Ytgcbcmhdlgklgaa
