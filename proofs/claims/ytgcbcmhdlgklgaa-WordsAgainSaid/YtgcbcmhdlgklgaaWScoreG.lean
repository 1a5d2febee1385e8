/- The program's Score. No statement is proved here. -/
import Derived.Test.YtgcbcmhdlgklgaaWInS
import Derived.Test.YtgcbcmhdlgklgaaWScoreP
import Derived.Maps.OwnIn
import Derived.Maps.OwnSet
import Derived.Maps.Views
namespace Go.Proofs.Ytgcbcmhdlgklgaa
open Go.RowKit Go.Lib Go.ChangeMaps Go.MapKept Go.WideShapes
open Go.Maps (Keyed IsMap Tidy)
set_option maxRecDepth 100000
attribute [local go_sem] Oper.semAt_some

def litW (x : List Int) : Lit := .string (strOfNums x).data.toList
theorem keyed_string : Keyed Try.prog 9 := Maps.string_keyed Try.underlying9
theorem key_word (x : List Int) (hx : x.length ≤ 1000) : keyOf Try.prog 9 (.string (strOfNums x)) = some (litW x) :=
  WideMaps.keyOf_string_mk Try.underlying9 (by have := strOf_size x; unfold maxLen; omega)
theorem zeroUnit (W : World) : (zeroValue 46).run Try.prog W = .ok (.agg #[]) W := Try.zeroValue46 W
theorem ownsMap_of {w w' : World} {P : Program} {k : TypeId} {R : Value → Option (DataW Unit × List MemPlace)} {b n : Nat} {D : DataW Unit} (h : w.ownsMap P k R b n D) (e : w'.heap[b]? = w.heap[b]?) : w'.ownsMap P k R b n D := by
  obtain ⟨es, clock, hb, r⟩ := h
  exact ⟨es, clock, e.trans hb, r⟩
theorem litW_key (x : List Int) : WideAt.IsKeyLit (litW x) := trivial
theorem litW_same {x y : List Int} (hx : isWord x) (hy : isWord y) : (litW x).sameKey (litW y) = decide (x = y) := by
  show ((strOfNums x).data.toList == (strOfNums y).data.toList) = _
  rw [← toList_data, ← toList_data]
  exact word_same hx hy _ rfl
theorem has_words {ws : List (List Int)} {y : List Int} (hw : ∀ x ∈ ws, isWord x) (hy : isWord y) : Maps.has (Maps.setOf (.agg [] : DataW Unit) (ws.map litW)) (litW y) = decide (y ∈ ws) := by
  rw [Maps.has_setOf _ _ _ (fun x hx => by obtain ⟨z, -, rfl⟩ := List.mem_map.1 hx; exact litW_key z)]
  induction ws with
  | nil => rfl
  | cons x r ih =>
    rw [List.map_cons, List.any_cons, ih fun z hz => hw z (by simp [hz]), litW_same (hw x (by simp)) hy]
    by_cases e : x = y
    · subst e; simp
    · have e' : ¬ y = x := fun h => e h.symm
      simp [e, e']
/-- The count so far. -/
structure ScoreR (A A2 : World) (ws pre : List (List Int)) (C : World) : Prop where
  box : C.heap[A.heap.size]? = some (.cells #[.int .i64 (scoreW pre ws : Nat)] 3 (0, 0))
  rest : ∀ k, k < A2.heap.size → k ≠ A.heap.size → C.heap[k]? = A2.heap[k]?
  oth : C.os = A2.os ∧ C.tape = A2.tape ∧ C.output = A2.output ∧ A2.heap.size ≤ C.heap.size
theorem ScoreR.no {A A2 : World} {ws pre : List (List Int)} {x : List Int} {C : World} (h : ScoreR A A2 ws pre C) (hA : A.heap.size < A2.heap.size) (e : scoreW (pre ++ [x]) ws = scoreW pre ws) (X : Obj) : Rnd (fun _ k => k = A.heap.size) C (C.alloc X) ∧ ScoreR A A2 ws (pre ++ [x]) (C.alloc X) := by
  have hz := h.oth.2.2.2
  refine ⟨Rnd.of_below ((Below.refl _ C).alloc (Nat.le_refl _) X) (fun k hk => .inl hk), ?_, fun k hk hn => (Below.heap_alloc _ _ _ (by omega)).trans (h.rest k hk hn), h.oth.1, h.oth.2.1, h.oth.2.2.1, by simp; omega⟩
  rw [e]
  exact (Below.heap_alloc _ _ _ (by omega)).trans h.box
theorem ScoreR.yes {A A2 : World} {ws pre : List (List Int)} {x : List Int} {C : World} (h : ScoreR A A2 ws pre C) (hA : A.heap.size < A2.heap.size) (e : scoreW (pre ++ [x]) ws = scoreW pre ws + 1) (X : Obj) :
    Rnd (fun _ k => k = A.heap.size) C ((C.setCell ⟨A.heap.size, 0, none⟩ (.int .i64 ((scoreW pre ws : Nat) + 1))).alloc X) ∧ ScoreR A A2 ws (pre ++ [x]) ((C.setCell ⟨A.heap.size, 0, none⟩ (.int .i64 ((scoreW pre ws : Nat) + 1))).alloc X) := by
  have hz := h.oth.2.2.2
  have sz : (C.setCell ⟨A.heap.size, 0, none⟩ (.int .i64 ((scoreW pre ws : Nat) + 1))).heap.size = C.heap.size := by simp [World.setCell]
  have sz2 : ((C.setCell ⟨A.heap.size, 0, none⟩ (.int .i64 ((scoreW pre ws : Nat) + 1))).alloc X).heap.size = C.heap.size + 1 := by rw [World.size_alloc, sz]
  refine ⟨⟨rfl, rfl, rfl, by omega, fun k hk hn => (Below.heap_alloc _ _ _ (by omega)).trans (Below.heap_setCell _ _ _ _ hn), fun k hk => .inl hk⟩, ?_, fun k hk hn => (Below.heap_alloc _ _ _ (by omega)).trans ((Below.heap_setCell _ _ _ _ hn).trans (h.rest k hk hn)), h.oth.1, h.oth.2.1, h.oth.2.2.1, by omega⟩
  have := heap_setCell_same _ _ 0 _ _ (.int .i64 ((scoreW pre ws : Nat) + 1)) h.box
  rw [e]
  refine (Below.heap_alloc _ _ _ (by omega)).trans ?_
  simpa using this
theorem scoreW_snoc (pre ws : List (List Int)) (x : List Int) : scoreW (pre ++ [x]) ws = scoreW pre ws + (if x ∈ ws then 1 else 0) := by
  unfold scoreW
  rw [List.filter_append, List.length_append]
  congr 1
  by_cases h : x ∈ ws <;> simp [h]
/-- The words of the text, in a set. -/
structure WantR (w W1 : World) (pre : List (List Int)) (A : World) : Prop where
  map : A.ownsMap Try.prog 9 unitElem (w.heap.size + 1) pre.length (Maps.setOf (.agg [] : DataW Unit) (pre.map litW))
  rest : ∀ k, k < W1.heap.size → k ≠ w.heap.size + 1 → A.heap[k]? = W1.heap[k]?
set_option maxHeartbeats 4000000 in
theorem score_any (t : T) (ok : t.ok) (s : ByteArray) (hs : s.size ≤ 140737488355328) (w : World) (hin : t.In w) (hm : (allW t.val).length ≤ 1000000000000) :
    Calls Try.prog 8 #[t.arg, .string s] w fun e w' => e = .returned (.int .i64 (scoreW (allW t.val) (splitL (bsI s)) : Nat)) ∧ Below w.heap.size w w' := by
  obtain ⟨kx, nx, sx, lax, lcx, lx, dax, dcx, dx⟩ := t
  show Calls _ _ #[.agg #[.int .i64 kx, .int .i64 nx, .string sx, .slice lax lx.length lcx, .slice dax dx.length dcx], .string s] _ _
  obtain ⟨W0, hW0⟩ : ∃ W0, ((w.alloc (.cells #[.int .i64 kx, .int .i64 nx, .string sx, .slice lax lx.length lcx, .slice dax dx.length dcx] 30)).alloc (.map #[] 0)).alloc (.cells #[.map (some (w.heap.size + 1))] 45) = W0 := ⟨_, rfl⟩
  obtain ⟨W1, hW1⟩ : ∃ W1, W0.alloc (.cells #[.string s] 9) = W1 := ⟨_, rfl⟩
  have z0 : W0.heap.size = w.heap.size + 3 := by rw [← hW0]; simp
  have z1 : W1.heap.size = w.heap.size + 4 := by rw [← hW1]; simp; omega
  have b0 : Below w.heap.size w W0 := by rw [← hW0]; exact ((((Below.refl _ w).alloc (Nat.le_refl _) _).alloc (by simp) _).alloc (by simp; omega) _)
  have b1 : Below w.heap.size w W1 := by rw [← hW1]; exact b0.alloc (by omega) _
  have hR := Lib.hid (words_any s W0)
  have hrf : Fence.wide.fn 13 := trivial
  have hmm := @run_makeMap Try.prog
  have qV : W1.heap[w.heap.size]? = some (.cells #[.int .i64 kx, .int .i64 nx, .string sx, .slice lax lx.length lcx, .slice dax dx.length dcx] 30 (0, 0)) := by
    rw [← hW1, ← hW0]
    exact (Below.heap_alloc _ _ _ (by simp; omega)).trans ((Below.heap_alloc _ _ _ (by simp; omega)).trans ((Below.heap_alloc _ _ _ (by simp)).trans (heap_alloc_new w _)))
  have qM : W1.ownsMap Try.prog 9 unitElem (w.heap.size + 1) 0 (Maps.setOf (.agg [] : DataW Unit) []) := by
    rw [← hW1, ← hW0]
    have h := World.ownsMap_made (w.alloc (.cells #[.int .i64 kx, .int .i64 nx, .string sx, .slice lax lx.length lcx, .slice dax dx.length dcx] 30)) Try.prog 9 (unitElem (H := Unit))
    rw [World.size_alloc] at h
    exact (h.alloc _).alloc _
  have qB : W1.heap[w.heap.size + 2]? = some (.cells #[.map (some (w.heap.size + 1))] 45 (0, 0)) := by
    rw [← hW1, ← hW0]
    refine (Below.heap_alloc _ _ _ (by simp)).trans ?_
    have := heap_alloc_new ((w.alloc (.cells #[.int .i64 kx, .int .i64 nx, .string sx, .slice lax lx.length lcx, .slice dax dx.length dcx] 30)).alloc (.map #[] 0)) (.cells #[.map (some (w.heap.size + 1))] 45)
    simpa using this
  have qS : W1.heap[w.heap.size + 3]? = some (.cells #[.string s] 9 (0, 0)) := by
    rw [← hW1, ← z0]
    exact heap_alloc_new W0 _
  have HQ := Lib.hid (And.intro qV (And.intro qM (And.intro qB (And.intro qS b1))))
  have HI := Lib.hid hin
  have HO := Lib.hid ok
  clear qV qM qB qS b0 b1 hin ok
  refine (callsIn_wide (n := 8)).1 ?_
  refine callsIn_of_wp_marks Try.func8 rfl trivial ?_ rfl
  simp only [Try.ntmps8, List.size_toArray, List.length_cons, List.length_nil, Nat.reduceAdd, Nat.reduceSub, Array.replicate_succ, Array.replicate_zero, List.push_toArray, List.append_toArray, List.nil_append, List.cons_append]
  gi_wp2_with (gi_at_call 13; refine (callsIn_wide.2 hR.out).mono ?_; rintro e w1 ⟨rfl, rfl⟩)
  clear hW0 hW1 hR hmm
  refine wp_tell (by omega) (gf := 18) (lb := #[.pointer (some ⟨w.heap.size + 3, 0, none⟩)]) rfl (enters_of Try.func18 (by kernel_rfl) rfl)
    (words_tell s (by omega) (w.heap.size + 3) W1 HQ.out.2.2.2.1) (fun k hk => by subst hk; omega) (Below.refl _ _) (fun _ => rfl) (fun _ k => k = w.heap.size + 1) (fun _ _ _ _ _ => Iff.rfl)
    (WantR w W1) (fun _ _ _ => False)
    (fun pre A B hz h i => ⟨ownsMap_of h.map (i.same _ (by omega) (.inr rfl)), fun k hk hn => (i.same k (by omega) (.inl hk)).trans (h.rest k hk hn)⟩) (fun _ _ _ _ _ h _ => h.elim)
    (fun pre A h k hk => by subst hk; exact ⟨by omega, h.map.lt⟩) ⟨HQ.out.2.1, fun _ _ _ => rfl⟩
    (fun x a' A => a' = { tmps := #[.agg #[.int .i64 kx, .int .i64 nx, .string sx, .slice lax lx.length lcx, .slice dax dx.length dcx], .string s, .pointer (some ⟨w.heap.size, 0, none⟩), undef, .int .i64 0, .pointer (some ⟨w.heap.size + 1 + 1, 0, none⟩), .string (strOfNums x), undef, undef, undef, undef,
      .map (some (w.heap.size + 1)), .string s, .func (.func 18) #[] #[.pointer (some ⟨w.heap.size + 3, 0, none⟩)], .string (strOfNums x), undef, undef, undef, undef, undef, undef, undef, undef, undef, undef, undef, undef, undef, undef, undef, undef], defers := [] })
    (fun x a' A B _ h _ => h) ?assign ?body ?done ?stop
  case stop =>
    intro D cc pre A hD hpre hI hr hd hK
    exact hI.elim
  case assign =>
    intro l1 pre x A K hz hI hK
    gi_wp2
    exact hK _ _ (Below.refl _ _) rfl
  case body =>
    rintro l1 pre x a' A hz hI rfl hpre
    have hw : isWord x := splitL_are x (hpre.subset (by simp))
    have hkey := key_word x (by have := hw.1; omega)
    have cb := row_cell ((hI.rest _ (by omega) (by omega)).trans HQ.out.2.2.1)
    have hpl : pre.length ≤ 200 := by have := hpre.length_le; have := splitL_len (bsI s); simp at *; omega
    have HM := Lib.hid hI
    have hmap := hI.map
    clear hI
    gi_wp2_with (gi_at_mapUpdate; refine wpListIn_mapUpdate_own _ rfl _ _ _ 45 rfl 9 46 keyed_string Try.underlying45 (unitElem (H := Unit)) (w.heap.size + 1) pre.length _ rfl hmap (by unfold maxLen; omega) _ _ _ rfl rfl hkey _ [] unitElem_mk ?_; intro w2 hown2 hgrow2)
    refine ⟨⟨hgrow2.os, hgrow2.tape, hgrow2.output, hgrow2.size, fun k hk hn => hgrow2.block k hk (fun e => hn (by injection e)), fun k h => .inl h⟩, ?_, fun k hk hn => (hgrow2.block k (by omega) (fun e => hn (by injection e))).trans (HM.out.rest k hk hn)⟩
    rw [List.map_append, List.map_singleton, Maps.setOf_snoc, List.length_append]
    exact hown2
  case done =>
    intro D A hD hI hr hd hK
    have hv := (hI.rest _ (by omega) (by omega)).trans HQ.out.1
    have hBm := (hI.rest _ (by omega) (by omega)).trans HQ.out.2.2.1
    have bA : Below w.heap.size w A := ⟨hr.os.trans HQ.out.2.2.2.2.os, hr.tape.trans HQ.out.2.2.2.2.tape, hr.output.trans HQ.out.2.2.2.2.output, by have := hr.size; omega, fun k hk => (hI.rest k (by omega) (by omega)).trans (HQ.out.2.2.2.2.block k hk)⟩
    have zA : W1.heap.size + 1 ≤ A.heap.size := by have := (Array.getElem?_eq_some_iff.1 hK).1; omega
    obtain ⟨A1, hA1⟩ : ∃ A1, A.alloc (.cells #[.int .i64 0] 3) = A1 := ⟨_, rfl⟩
    obtain ⟨A2, hA2⟩ : ∃ A2, A1.alloc (.cells #[.int .i64 kx, .int .i64 nx, .string sx, .slice lax lx.length lcx, .slice dax dx.length dcx] 30) = A2 := ⟨_, rfl⟩
    have y1 : A1.heap.size = A.heap.size + 1 := by rw [← hA1]; simp
    have y2 : A2.heap.size = A.heap.size + 2 := by rw [← hA2]; simp; omega
    have c1 : Below A.heap.size A A1 := by rw [← hA1]; exact (Below.refl _ A).alloc (Nat.le_refl _) _
    have c2 : Below A.heap.size A A2 := by rw [← hA2]; exact c1.alloc (by omega) _
    have p1 : A2.heap[A.heap.size]? = some (.cells #[.int .i64 0] 3 (0, 0)) := by rw [← hA2, ← hA1]; exact (Below.heap_alloc _ _ _ (by simp)).trans (heap_alloc_new A _)
    have p2 : A2.heap[A.heap.size + 1]? = some (.cells #[.int .i64 kx, .int .i64 nx, .string sx, .slice lax lx.length lcx, .slice dax dx.length dcx] 30 (0, 0)) := by rw [← hA2, ← y1]; exact heap_alloc_new A1 _
    have hR2 := (wordsIn_any (.mk kx nx sx lax lcx lx dax dcx dx) A1)
    have hv1 := (c1.block _ (by omega)).trans hv
    rw [← hA1] at hv1 hR2
    have d0 : (A.alloc (.cells #[.int .i64 0] 3)).cell? ⟨w.heap.size, 0, none⟩ = some (.int .i64 kx) := row_cells hv1 0
    have d1 : (A.alloc (.cells #[.int .i64 0] 3)).cell? ⟨w.heap.size, 1, none⟩ = some (.int .i64 nx) := row_cells hv1 1
    have d2 : (A.alloc (.cells #[.int .i64 0] 3)).cell? ⟨w.heap.size, 2, none⟩ = some (.string sx) := row_cells hv1 2
    have d3 : (A.alloc (.cells #[.int .i64 0] 3)).cell? ⟨w.heap.size, 3, none⟩ = some (.slice lax lx.length lcx) := row_cells hv1 3
    have d4 : (A.alloc (.cells #[.int .i64 0] 3)).cell? ⟨w.heap.size, 4, none⟩ = some (.slice dax dx.length dcx) := row_cells hv1 4
    have hR2 := Lib.hid hR2
    have E1 := Lib.hid hA1
    have E2 := Lib.hid hA2
    clear hv1 hA1 hA2
    have hrf2 : Fence.wide.fn 14 := trivial
    have HA := Lib.hid (And.intro hI (And.intro bA (And.intro hK (And.intro c2 (And.intro p1 (And.intro p2 hBm))))))
    clear hI hr hd hv hBm bA c1 c2 p1 p2 hrf
    gi_wp2_with (gi_at_call 14; refine (callsIn_wide.2 hR2.out).mono ?_; rintro e w1 ⟨rfl, rfl⟩)
    show Code.wpIn _ _ _ _ _ _ ((A.alloc (.cells #[.int .i64 0] 3)).alloc (.cells #[.int .i64 kx, .int .i64 nx, .string sx, .slice lax lx.length lcx, .slice dax dx.length dcx] 30))
    rw [E1.out, E2.out]
    clear hR2 d0 d1 d2 d3 d4
    have hws : ∀ x ∈ splitL (bsI s), isWord x := fun x hx => splitL_are x hx
    obtain ⟨ws, hwsE⟩ : ∃ ws, splitL (bsI s) = ws := ⟨_, rfl⟩
    obtain ⟨us, husE⟩ : ∃ us, allW (T.val (T.mk kx nx sx lax lcx lx dax dcx dx)) = us := ⟨_, rfl⟩
    rw [hwsE] at HA hws
    have hus : ∀ x ∈ us, isWord x := by rw [← husE]; exact allW_are _
    rw [husE] at hm
    have hseq := wordsIn_tell (T.mk kx nx sx lax lcx lx dax dcx dx) HO.out w HI.out A2 (HA.out.2.1.trans (HA.out.2.2.2.1.mono (by omega))) (A.heap.size + 1) HA.out.2.2.2.2.2.1
    rw [husE] at hseq
    have HW := Lib.hid (And.intro hws (And.intro hus (And.intro hwsE husE)))
    clear hws hus hwsE husE
    refine wp_tell (by omega) (gf := 21) (lb := #[.pointer (some ⟨A.heap.size + 1, 0, none⟩)]) rfl (enters_of Try.func21 (by kernel_rfl) rfl)
      hseq (fun k hk => by rcases hk with rfl | hk <;> omega) (Below.refl _ _) (fun _ => rfl) (fun _ k => k = A.heap.size) (fun _ _ _ _ _ => Iff.rfl)
      (ScoreR A A2 ws) (fun _ _ _ => False)
      (fun pre B C hz h i => ⟨(i.same _ (by omega) (.inr rfl)).trans h.box, fun k hk hn => (i.same k (by omega) (.inl hk)).trans (h.rest k hk hn), i.os.trans h.oth.1, i.tape.trans h.oth.2.1, i.output.trans h.oth.2.2.1, Nat.le_trans h.oth.2.2.2 i.size⟩) (fun _ _ _ _ _ h _ => h.elim)
      (fun pre B h k hk => by subst hk; exact ⟨by omega, (Array.getElem?_eq_some_iff.1 h.box).1⟩) ⟨HA.out.2.2.2.2.1, fun _ _ _ => rfl, rfl, rfl, rfl, Nat.le_refl _⟩
      (fun x a' B => a' = { tmps := #[.agg #[.int .i64 kx, .int .i64 nx, .string sx, .slice lax lx.length lcx, .slice dax dx.length dcx], .string s, .pointer (some ⟨w.heap.size, 0, none⟩), undef, .int .i64 0, .pointer (some ⟨w.heap.size + 1 + 1, 0, none⟩), undef, .pointer (some ⟨A.heap.size, 0, none⟩), .string (strOfNums x), undef, undef,
        .map (some (w.heap.size + 1)), .string s, .func (.func 18) #[] #[.pointer (some ⟨w.heap.size + 3, 0, none⟩)], undef, undef, undef, undef, .agg #[.int .i64 kx, .int .i64 nx, .string sx, .slice lax lx.length lcx, .slice dax dx.length dcx], .func (.func 21) #[] #[.pointer (some ⟨A.heap.size + 1, 0, none⟩)], .string (strOfNums x), undef, undef, undef, undef, undef, undef, undef, undef, undef, undef], defers := [] })
      (fun x a' A B _ h _ => h) ?assign2 ?body2 ?done2 ?stop2
    case stop2 =>
      intro D cc pre A hD hpre hI hr hd hK
      exact hI.elim
    case assign2 =>
      intro l1 pre x A K hz hI hK
      gi_wp2
      exact hK _ _ (Below.refl _ _) rfl
    case body2 =>
      rintro l1 pre x a' C hz hI rfl hpre
      have hx : isWord x := HW.out.2.1 x (hpre.subset (by simp))
      have hkey := key_word x (by have := hx.1; omega)
      have hmap : C.ownsMap Try.prog 9 unitElem (w.heap.size + 1) ws.length (Maps.setOf (.agg [] : DataW Unit) (ws.map litW)) := ownsMap_of HA.out.1.map ((hI.rest _ (by omega) (by omega)).trans (HA.out.2.2.2.1.block _ (by omega)))
      have cb := row_cell ((hI.rest (w.heap.size + 2) (by omega) (by omega)).trans ((HA.out.2.2.2.1.block _ (by omega)).trans HA.out.2.2.2.2.2.2))
      have hplen : pre.length ≤ us.length := by have := hpre.length_le; simp at this; omega
      have hsle := scoreW_le pre ws
      have hh := has_words HW.out.1 hx
      have hcs := row_cell hI.box
      have hCz := (Array.getElem?_eq_some_iff.1 hI.box).1
      have hcs1 := row_cell ((Below.heap_alloc C (.cells #[] 46) A.heap.size hCz).trans hI.box)
      obtain ⟨sc, hsc⟩ : ∃ sc, scoreW pre ws = sc := ⟨_, rfl⟩
      have hsn := scoreW_snoc pre ws x
      rw [hsc] at hsle hcs hcs1 hsn
      have HM := Lib.hid (And.intro hI (And.intro hh (And.intro hsn hsc)))
      clear hI hh hsn hsc
      by_cases hxw : x ∈ ws
      · have ht : Maps.has (Maps.setOf (.agg [] : DataW Unit) (ws.map litW)) (litW x) = true := by rw [HM.out.2.1]; exact decide_eq_true hxw
        have hsn : Hid (scoreW (pre ++ [x]) ws = scoreW pre ws + 1) := by have h := HM.out.2.2.1; rw [if_pos hxw] at h; rw [HM.out.2.2.2]; exact h
        have HS := Lib.hid HM.out.2.2.2
        gi_wp2_with (gi_at_lookup; refine wpListIn_lookup_own_unit _ rfl _ _ 45 rfl 9 46 keyed_string Try.underlying45 (zeroUnit _) (w.heap.size + 1) ws.length _ rfl hmap _ _ rfl hkey ?_; rw [ht])
        have h := HM.out.1.yes (by omega) hsn.out (.cells #[] 46)
        rw [HS.out] at h
        exact h
      · have ht : Maps.has (Maps.setOf (.agg [] : DataW Unit) (ws.map litW)) (litW x) = false := by rw [HM.out.2.1]; exact decide_eq_false hxw
        have hsn : Hid (scoreW (pre ++ [x]) ws = scoreW pre ws) := by have h := HM.out.2.2.1; rw [if_neg hxw] at h; rw [HM.out.2.2.2]; exact h
        gi_wp2_with (gi_at_lookup; refine wpListIn_lookup_own_unit _ rfl _ _ 45 rfl 9 46 keyed_string Try.underlying45 (zeroUnit _) (w.heap.size + 1) ws.length _ rfl hmap _ _ rfl hkey ?_; rw [ht])
        exact HM.out.1.no (by omega) hsn.out (.cells #[] 46)
    case done2 =>
      intro D2 C hD2 hI2 hr2 hd2 hK2
      have hb := row_cell hI2.box
      have hK1 : (C.putObj D2 (.deferred none)).heap[w.heap.size + 4]? = some (.deferred (some [])) := by
        rw [World.putObj_heap_other (by omega), hI2.rest _ (by omega) (by omega), HA.out.2.2.2.1.block _ (by omega), ← z1, ← hD]
        exact HA.out.2.2.1
      have HE : Hid (Below w.heap.size w ((C.putObj D2 (.deferred none)).putObj (w.heap.size + 4) (.deferred none))) := by
        have h1 : Below w.heap.size w C := ⟨hI2.oth.1.trans (HA.out.2.2.2.1.os.trans HA.out.2.1.os), hI2.oth.2.1.trans (HA.out.2.2.2.1.tape.trans HA.out.2.1.tape), hI2.oth.2.2.1.trans (HA.out.2.2.2.1.output.trans HA.out.2.1.output), by have := hI2.oth.2.2.2; omega,
          fun k hk => (hI2.rest k (by omega) (by omega)).trans ((HA.out.2.2.2.1.block k (by omega)).trans (HA.out.2.1.block k hk))⟩
        have h2 := h1.grown (grownBy_putObj' C D2 (.deferred none)) (by have := h1.size; omega) (fun k e => by cases e; omega)
        exact h2.grown (grownBy_putObj' _ (w.heap.size + 4) (.deferred none)) (by have := h2.size; omega) (fun k e => by cases e; omega)
      clear hr2 hd2 hI2
      gi_wp2
      refine ⟨by simp, .inl ⟨_, _, rfl, run_takeDeferred hK2, ?_⟩⟩
      refine ⟨by simp, .inl ⟨_, _, rfl, run_takeDeferred hK1, ?_⟩⟩
      refine ⟨.int .i64 (scoreW us ws : Nat), ?_, ?_, HE.out⟩
      · exact (results_tmp (fn := Try.f8) (t := 4) rfl _ _ _)
      · rw [← HW.out.2.2.1, ← HW.out.2.2.2]
#print axioms score_any
end Go.Proofs.Ytgcbcmhdlgklgaa
