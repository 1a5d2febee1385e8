/- The words of all texts in a value: what the program's iterator tells. No statement is proved here. -/
import Derived.Test.YtgcbcmhdlgklgaaWWordsT
import Derived.Test.YtgcbcmhdlgklgaaWAllP
namespace Go.Proofs.Ytgcbcmhdlgklgaa
open Go.RowKit Go.Lib
set_option maxRecDepth 100000
attribute [local go_sem] Oper.semAt_some

abbrev encW : List Int → Array Value := fun x => #[.string (strOfNums x)]
/-- While the texts of a value are told. -/
structure InR (Arg : Nat → Prop) (w : World) (l TB : Nat) (Th : World → Nat → Prop) (J : List (List Int) → World → Prop) (W : World) (pre : List (List Int)) (A : World) : Prop where
  far : Sofar Arg w Th W A
  j : J pre A
  tell : A.heap[TB]? = some (.cells #[.func (.yield l) #[] #[]] 54 (0, 0))
  mine : ¬ Th A TB
section
variable {Arg : Nat → Prop} {w : World} {l TB : Nat} {Th : World → Nat → Prop} {J Jx : List (List Int) → World → Prop} {W : World} {L : List (List Int)}
theorem InR.itr (T : Told Try.prog Arg encW L w l Th J Jx W) {pre : List (List Int)} {A B : World} (h : InR Arg w l TB Th J W pre A) (i : Itr W.heap.size Th A B) (ht : B.heap[TB]? = A.heap[TB]?) : InR Arg w l TB Th J W pre B := by
  obtain ⟨h1, h2, h3⟩ := T.own h.far h.j i
  exact ⟨h1, h2, ht.trans h.tell, h3 _ h.mine⟩
theorem InR.below (T : Told Try.prog Arg encW L w l Th J Jx W) {pre : List (List Int)} {A B : World} (h : InR Arg w l TB Th J W pre A) (b : Below A.heap.size A B) : InR Arg w l TB Th J W pre B :=
  h.itr T (.of_below b) (b.block _ (Array.getElem?_eq_some_iff.1 h.tell).1)
/-- How a call ends that tells some words. -/
def TellTo (Arg : Nat → Prop) (w : World) (l TB : Nat) (Th : World → Nat → Prop) (J Jx : List (List Int) → World → Prop) (W : World) (L pre ws : List (List Int)) (e : Ending) (B : World) : Prop :=
  (e = .returned (.bool true) ∧ InR Arg w l TB Th J W (pre ++ ws) B) ∨ (e = .returned (.bool false) ∧ Sofar Arg w Th W B ∧ ∃ q, q <+: L ∧ Jx q B)
/-- A word is told. -/
theorem InR.tells (T : Told Try.prog Arg encW L w l Th J Jx W) {pre : List (List Int)} {x : List Int} {A : World} (h : InR Arg w l TB Th J W pre A) (hp : pre ++ [x] <+: L) :
    ∃ fn tmps assign body, (Instr.yield l #[.string (strOfNums x)]).run Try.prog A = .ok (.round l fn tmps assign body) A ∧ ∀ m, RoundIn Fence.wide m Try.prog l fn tmps assign body A fun e B => Rnd Th A B ∧
      ((e = .returned (.bool true) ∧ InR Arg w l TB Th J W (pre ++ [x]) B) ∨ (e = .returned (.bool false) ∧ Sofar Arg w Th W B ∧ Jx (pre ++ [x]) B)) := by
  obtain ⟨fn, tmps, assign, body, hy, hRd⟩ := T.yields pre x A h.j hp
  refine ⟨fn, tmps, assign, body, hy, fun m => (yield_round (m' := m) hRd).mono ?_⟩
  rintro e B ⟨r, hj⟩
  obtain ⟨fB, kB⟩ := T.round h.far h.j r
  obtain ⟨mB, eB⟩ := kB _ (Array.getElem?_eq_some_iff.1 h.tell).1 h.mine
  exact ⟨r, hj.imp (fun ⟨e, j⟩ => ⟨e, fB, j, eB.trans h.tell, mB⟩) (fun ⟨e, j⟩ => ⟨e, fB, j⟩)⟩
theorem results_bool {fn : Func} {p : Tmp} (h : fn.results = #[.cell p 4]) (tmps : Array Value) (w : World) (g : Nat) (b : Bool) (hp : tmps.getD p undef = .pointer (some ⟨g, 0, none⟩)) (hc : w.cell? ⟨g, 0, none⟩ = some (.bool b)) :
    (results fn tmps).run Try.prog w = .ok (.bool b) w := by
  have hp' : tmps[p]?.getD undef = .pointer (some ⟨g, 0, none⟩) := by simpa using hp
  simp [results, h, hp', asAddr, go_sem, hc]
/-- While the words of one text are told. -/
structure TextR (Arg : Nat → Prop) (w : World) (l TB : Nat) (Th : World → Nat → Prop) (J : List (List Int) → World → Prop) (W : World) (pre : List (List Int)) (R : Nat) (q : List (List Int)) (C : World) : Prop where
  inr : InR Arg w l TB Th J W (pre ++ q) C
  box : C.heap[R]? = some (.cells #[.bool false] 4 (0, 0))
  mine : ¬ Th C R ∧ ¬ Th C (R + 1)
set_option maxHeartbeats 4000000 in
theorem tellText_any (T : Told Try.prog Arg encW L w l Th J Jx W) (s : ByteArray) (hs : s.size ≤ 140737488355328) (hTB : W.heap.size ≤ TB) (pre : List (List Int)) (A : World) (h : InR Arg w l TB Th J W pre A) (hp : pre ++ splitL (bsI s) <+: L) :
    Calls Try.prog 23 #[.string s, .pointer (some ⟨TB, 0, none⟩)] A (TellTo Arg w l TB Th J Jx W L pre (splitL (bsI s))) := by
  refine (callsIn_wide (n := 8)).1 ?_
  refine callsIn_of_wp_marks Try.func23 rfl trivial ?_ rfl
  simp only [Try.ntmps23, List.size_toArray, List.length_cons, List.length_nil, Nat.reduceAdd, Nat.reduceSub, Array.replicate_succ, Array.replicate_zero, List.push_toArray, List.append_toArray, List.nil_append, List.cons_append]
  have hTBl := (Array.getElem?_eq_some_iff.1 h.tell).1
  have hzA := h.far.size
  obtain ⟨W0, hW0⟩ : ∃ W0, A.alloc (.cells #[.bool false] 4) = W0 := ⟨_, rfl⟩
  obtain ⟨W1, hW1⟩ : ∃ W1, W0.alloc (.cells #[.string s] 9) = W1 := ⟨_, rfl⟩
  have z0 : W0.heap.size = A.heap.size + 1 := by rw [← hW0]; simp
  have z1 : W1.heap.size = A.heap.size + 2 := by rw [← hW1]; simp; omega
  have b0 : Below A.heap.size A W0 := by rw [← hW0]; exact (Below.refl _ A).alloc (Nat.le_refl _) _
  have b1 : Below A.heap.size A W1 := by rw [← hW1]; exact b0.alloc (by omega) _
  have q0 : W0.heap[A.heap.size]? = some (.cells #[.bool false] 4 (0, 0)) := by rw [← hW0]; exact heap_alloc_new A _
  have q1 : W1.heap[A.heap.size]? = some (.cells #[.bool false] 4 (0, 0)) := by rw [← hW1]; exact (Below.heap_alloc _ _ _ (by omega)).trans q0
  have q2 : W1.heap[A.heap.size + 1]? = some (.cells #[.string s] 9 (0, 0)) := by rw [← hW1, ← z0]; exact heap_alloc_new W0 _
  have I1 : InR Arg w l TB Th J W pre W1 := h.below T b1
  have hf0 : ¬ Th W1 A.heap.size := fun hc => by
    have := (T.stab _ _ hzA (.of_below b1) _).1 hc
    exact T.fresh h.j (Nat.le_refl _) this
  have hf1 : ¬ Th W1 (A.heap.size + 1) := fun hc => by
    have := (T.stab _ _ hzA (.of_below b1) _).1 hc
    exact T.fresh h.j (by omega) this
  have hR := Lib.hid (words_any s W0)
  have hrf : Fence.wide.fn 13 := trivial
  have HT := Lib.hid T
  have HI := Lib.hid (And.intro I1 (And.intro hf0 hf1))
  have HQ := Lib.hid (And.intro q1 (And.intro q2 b1))
  have HP := Lib.hid hp
  clear T b0 b1 q0 q1 q2 h I1 hf0 hf1 hp
  gi_wp2_with (gi_at_call 13; refine (callsIn_wide.2 hR.out).mono ?_; rintro e w1 ⟨rfl, rfl⟩)
  have toI : ∀ {C E : World}, Itr W1.heap.size (fun A' k => k = A.heap.size ∨ Th A' k) C E → Itr W.heap.size Th C E := fun i => ⟨i.os, i.tape, i.output, i.size, fun k hk hc => i.same k hk (hc.imp (fun h => by omega) .inr)⟩
  have keep : ∀ q C E, W1.heap.size ≤ C.heap.size → TextR Arg w l TB Th J W pre A.heap.size q C → Itr W1.heap.size (fun A' k => k = A.heap.size ∨ Th A' k) C E → TextR Arg w l TB Th J W pre A.heap.size q E := fun q C E hz h i => by
    have st := HT.out.stab _ _ h.inr.far.size (toI i)
    exact ⟨h.inr.itr HT.out (toI i) (i.same _ (by omega) (.inl (by omega))), (i.same _ (by omega) (.inl (by omega))).trans h.box, fun hc => h.mine.1 ((st _).1 hc), fun hc => h.mine.2 ((st _).1 hc)⟩
  refine wp_tell (by omega) (gf := 18) (lb := #[.pointer (some ⟨A.heap.size + 1, 0, none⟩)]) rfl (enters_of Try.func18 (by kernel_rfl) rfl)
    (words_tell s (Nat.le_trans hs (by omega)) (A.heap.size + 1) W1 HQ.out.2.1) (fun k hk => by subst hk; omega) (Below.refl _ _) (fun _ => rfl) (fun A' k => k = A.heap.size ∨ Th A' k)
    (fun C E hz i k => by
      have st := HT.out.stab _ _ (by omega) (toI i) k
      exact ⟨fun h => h.imp id st.1, fun h => h.imp id st.2⟩)
    (TextR Arg w l TB Th J W pre A.heap.size) (fun c q C => c = .ret ∧ Sofar Arg w Th W C ∧ C.heap[A.heap.size]? = some (.cells #[.bool false] 4 (0, 0)) ∧ ∃ q, q <+: L ∧ Jx q C)
    keep
    (fun c q C E hz h i => by
      obtain ⟨h1, h2, h3, q', h4, h5⟩ := h
      obtain ⟨g1, g2⟩ := HT.out.ownx h2 h5 (toI i)
      exact ⟨h1, g1, (i.same _ (by omega) (.inl (by omega))).trans h3, q', h4, g2⟩)
    (fun q C h k hk => by
      rcases hk with e | hk
      · subst e
        exact ⟨by omega, (Array.getElem?_eq_some_iff.1 h.box).1⟩
      · exact ⟨fun e => by subst e; exact h.mine.2 hk, (HT.out.lt _ _ h.inr.j k hk).2⟩)
    ⟨by rw [List.append_nil]; exact HI.out.1, HQ.out.1, HI.out.2⟩
    (fun x a' C => a' = { tmps := #[.string s, .pointer (some ⟨TB, 0, none⟩), undef, .pointer (some ⟨A.heap.size, 0, none⟩), .string (strOfNums x), .string s, .func (.func 18) #[] #[.pointer (some ⟨A.heap.size + 1, 0, none⟩)], .string (strOfNums x), undef, undef, undef, undef], defers := [] })
    (fun x a' A B _ h _ => h) ?assign ?body ?done ?stop
  case assign =>
    intro l1 q x C K hz hI hK
    gi_wp2
    exact hK _ _ (Below.refl _ _) rfl
  case body =>
    rintro l1 q x a' C hz hI rfl hpre
    have hpl : pre ++ q ++ [x] <+: L := by
      rw [List.append_assoc]
      exact ((List.prefix_append_right_inj pre).2 hpre).trans HP.out
    obtain ⟨fn, tmps, assign, body, hy, hRd⟩ := hI.inr.tells HT.out hpl
    have ct := row_cell hI.inr.tell
    have hRd := Lib.hid hRd
    have HI2 := Lib.hid hI
    have hRz : A.heap.size < C.heap.size := (Array.getElem?_eq_some_iff.1 hI.box).1
    clear hI hpl
    gi_wp2
    refine (round_in l1 (hRd.out _)).mono ?_
    rintro e B ⟨r, hj⟩
    have hb1 : B.heap[A.heap.size]? = some (.cells #[.bool false] 4 (0, 0)) := (r.same _ hRz HI2.out.mine.1).trans HI2.out.box
    have cb := row_cell hb1
    have hr : Rnd (fun A' k => k = A.heap.size ∨ Th A' k) C B := ⟨r.os, r.tape, r.output, r.size, fun k hk hn => r.same k hk (fun hc => hn (.inr hc)), fun k hk => hk.elim (fun e => .inl (.inl e)) (fun h => (r.own k h).imp .inr id)⟩
    have hm : ¬ Th B A.heap.size ∧ ¬ Th B (A.heap.size + 1) := ⟨fun hc => (r.own _ hc).elim HI2.out.mine.1 (fun h => by omega), fun hc => (r.own _ hc).elim HI2.out.mine.2 (fun h => by omega)⟩
    have HE := Lib.hid (And.intro hr (And.intro hb1 hm))
    clear hr hb1 hm r
    rcases hj with ⟨rfl, jB⟩ | ⟨rfl, fB, jB⟩
    · have HF := Lib.hid jB
      clear jB
      gi_wp2
      exact ⟨HE.out.1, by rw [← List.append_assoc]; exact HF.out, HE.out.2.1, HE.out.2.2⟩
    · have HF := Lib.hid (And.intro fB jB)
      clear fB jB
      gi_wp2
      have iB : Itr W.heap.size Th B (B.setCell ⟨A.heap.size, 0, none⟩ (.bool false)) := itr_setCell _ (by simp; omega) HE.out.2.2.1
      obtain ⟨f2, j2⟩ := HT.out.ownx HF.out.1 HF.out.2 iB
      have e2 : (B.setCell ⟨A.heap.size, 0, none⟩ (.bool false)).heap[A.heap.size]? = some (.cells #[.bool false] 4 (0, 0)) := by
        have := heap_setCell_same _ _ 0 _ _ (.bool false) HE.out.2.1
        simpa using this
      have st := HT.out.stab _ _ HF.out.1.size iB
      refine ⟨HE.out.1.trans ⟨iB.os, iB.tape, iB.output, iB.size, fun k hk hn => Below.heap_setCell _ _ _ _ (fun e => hn (.inl e)), fun k hk => .inl (hk.imp id (st k).1)⟩, rfl, f2, e2, _, ?_, j2⟩
      rw [List.append_assoc]
      exact ((List.prefix_append_right_inj pre).2 hpre).trans HP.out
  case done =>
    intro D C hD hI hr hd hK
    have cb := row_cell hI.box
    have hRz : A.heap.size < C.heap.size := (Array.getElem?_eq_some_iff.1 hI.box).1
    have iB : Itr W.heap.size Th C (C.setCell ⟨A.heap.size, 0, none⟩ (.bool true)) := itr_setCell _ (by simp; omega) hI.mine.1
    have e2 : (C.setCell ⟨A.heap.size, 0, none⟩ (.bool true)).heap[A.heap.size]? = some (.cells #[.bool true] 4 (0, 0)) := by
      have := heap_setCell_same _ _ 0 _ _ (.bool true) hI.box
      simpa using this
    have hK2 : (C.setCell ⟨A.heap.size, 0, none⟩ (.bool true)).heap[D]? = some (.deferred (some [])) := (Below.heap_setCell _ _ _ _ (by simp; omega)).trans hK
    have I2 := hI.inr.itr HT.out iB (Below.heap_setCell _ _ _ _ (by simp; omega))
    have st := HT.out.stab _ _ hI.inr.far.size iB
    obtain ⟨E, hE⟩ : ∃ E, C.setCell ⟨A.heap.size, 0, none⟩ (.bool true) = E := ⟨_, rfl⟩
    rw [hE] at e2 hK2 I2 st
    have iD : Itr W.heap.size Th E (E.putObj D (.deferred none)) := itr_putObj _ (by omega) (fun h => hd (.inr ((st D).1 h)))
    have I3 := I2.itr HT.out iD (World.putObj_heap_other (by omega))
    have e3 := row_cell ((World.putObj_heap_other (by omega : A.heap.size ≠ D) : (E.putObj D (.deferred none)).heap[A.heap.size]? = E.heap[A.heap.size]?).trans e2)
    have HF := Lib.hid I3
    have HEE := Lib.hid hE
    clear I2 I3 hI hr hd st
    gi_wp2
    refine ⟨by simp, .inl ⟨_, _, rfl, run_takeDeferred hK2, ?_⟩⟩
    refine ⟨.bool true, results_bool rfl _ _ A.heap.size true rfl e3.1, .inl ⟨rfl, HF.out⟩⟩
  case stop =>
    intro D cc q C hD hpre hI hr hd hK
    obtain ⟨rfl, hf, hb, q', hq, hj⟩ := hI
    have cb := row_cell hb
    have iD : Itr W.heap.size Th C (C.putObj D (.deferred none)) := itr_putObj _ (by omega) (fun h => hd (.inr h))
    obtain ⟨f2, j2⟩ := HT.out.ownx hf hj iD
    have e3 := row_cell ((World.putObj_heap_other (by omega : A.heap.size ≠ D) : (C.putObj D (.deferred none)).heap[A.heap.size]? = C.heap[A.heap.size]?).trans hb)
    have HF := Lib.hid (And.intro f2 j2)
    clear f2 j2 hf hj hr hd
    gi_wp2
    refine ⟨by simp, .inl ⟨_, _, rfl, run_takeDeferred hK, ?_⟩⟩
    refine ⟨.bool false, results_bool rfl _ _ A.heap.size false rfl e3.1, .inr ⟨rfl, HF.out.1, q', hq, HF.out.2⟩⟩
theorem InR.low (T : Told Try.prog Arg encW L w l Th J Jx W) {pre : List (List Int)} {A : World} (h : InR Arg w l TB Th J W pre A) {w0 : World} (hw : Below w0.heap.size w0 w) (harg : ∀ k, k < w0.heap.size → Arg k) : Below w0.heap.size w0 A :=
  ⟨h.far.rnd.os.trans (T.below.os.trans hw.os), h.far.rnd.tape.trans (T.below.tape.trans hw.tape), h.far.rnd.output.trans (T.below.output.trans hw.output), Nat.le_trans hw.size (Nat.le_trans T.below.size h.far.rnd.size),
   fun k hk => (h.far.kept k (harg k hk) (Nat.lt_of_lt_of_le hk hw.size)).trans (hw.block k hk)⟩
/-- Telling the texts of a value. -/
def TellAt (Arg : Nat → Prop) (w : World) (l TB : Nat) (Th : World → Nat → Prop) (J Jx : List (List Int) → World → Prop) (W : World) (L : List (List Int)) (t : T) : Prop :=
  ∀ (pre : List (List Int)) (A : World), InR Arg w l TB Th J W pre A → pre ++ allW t.val <+: L →
    Calls Try.prog 22 #[t.arg, .func (.func 23) #[] #[.pointer (some ⟨TB, 0, none⟩)]] A (TellTo Arg w l TB Th J Jx W L pre (allW t.val))
end
end Go.Proofs.Ytgcbcmhdlgklgaa
