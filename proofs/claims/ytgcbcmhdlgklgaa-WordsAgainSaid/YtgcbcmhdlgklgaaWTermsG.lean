/- The program's Terms. No statement is proved here. -/
import Derived.Test.YtgcbcmhdlgklgaaWSplitP
import Derived.Test.YtgcbcmhdlgklgaaWInS
import Derived.Test.YtgcbcmhdlgklgaaWSorted
import Derived.Maps.OwnIn
namespace Go.Proofs.Ytgcbcmhdlgklgaa
open Go.RowKit Go.Lib Go.ChangeMaps Go.MapKept Go.WideShapes
open Go.Maps (Keyed IsMap Tidy)
set_option maxRecDepth 100000
attribute [local go_sem] Oper.semAt_some

theorem kstr : Keyed Try.prog 9 := Maps.string_keyed Try.underlying9
theorem key_wordT (x : List Int) (hx : x.length ≤ 1000) : keyOf Try.prog 9 (.string (strOfNums x)) = some (litOf x) :=
  WideMaps.keyOf_string_mk Try.underlying9 (by have := strOf_size x; unfold maxLen; omega)
theorem ownsMap_at {w w' : World} {P : Program} {k : TypeId} {R : Value → Option (DataW Unit × List MemPlace)} {b n : Nat} {D : DataW Unit} (h : w.ownsMap P k R b n D) (e : w'.heap[b]? = w.heap[b]?) : w'.ownsMap P k R b n D := by
  obtain ⟨es, clock, hb, r⟩ := h
  exact ⟨es, clock, e.trans hb, r⟩
theorem keys_str {w : World} {R : Value → Option (DataW Unit × List MemPlace)} {b n : Nat} {D : DataW Unit} (h : w.ownsMap Try.prog 9 R b n D) : ∀ es, D = .map es → ∀ p ∈ es, ∃ x, p.1 = Lit.string x := by
  obtain ⟨es, hD, hk⟩ := h.keysOf
  intro es' hD' p hp
  rw [hD] at hD'
  cases hD'
  obtain ⟨v, hv⟩ := hk p hp
  obtain ⟨x, -, hx, -⟩ := Maps.keyOf_str Try.underlying9 hv
  exact ⟨x, hx⟩
/-- The count of a word, looked up. -/
theorem wpListIn_lookup_cnt {F : Fence} {nF : Nat} {ops : Array Oper} {rest : List Oper} {o : Oper} {a : Act} {w : World} {Q : Exit → Act → World → Prop} (hg : o.guard = none) (m x : Operand) (hop : o.op = Op.lookup 49 m x false)
    (b n : Nat) (D : DataW Unit) (l : List (List Int)) (y : List Int) (hm : a.eval m = .map (some b)) (hown : w.ownsMap Try.prog 9 (plainElem Try.prog 3) b n D) (hx : a.eval x = .string (strOfNums y)) (hy : isB y) (hyl : y.length ≤ 1000) (hD : MapOf D l)
    (hK : wpListIn F nF Try.prog ops Q rest (a.put o.dst (.int .i64 (l.count y : Nat))) w) : wpListIn F nF Try.prog ops Q (o :: rest) a w :=
  wpListIn_lookup_own_int w hg m x 49 hop 9 3 .i64 kstr Try.underlying49 Try.underlying3 (Try.zeroValue3 w) b n D hm hown _ _ hx (key_wordT y hyl) (fun c hat _ => by
    have h := hD.at_ (strOfNums y).data.toList
    rw [numsI_str y hy] at h
    rw [show litOf y = Lit.string (strOfNums y).data.toList from rfl, h] at hat
    injection hat with hat
    injection hat with _ hat
    rw [← hat]
    exact hK)
/-- The length of a map whose run is known. -/
theorem wpListIn_lenRun {F : Fence} {n : Nat} {P : Program} {ops : Array Oper} {rest : List Oper} {o : Oper} {a : Act} {w : World} {Q : Exit → Act → World → Prop} (hgd : o.guard = none) (m : Operand) (t : TypeId)
    (ho : o.op = .call { callee := .builtin .len, args := #[m], argTypes := #[t] }) (v u : Value) (hm : a.eval m = v) (hr : (Builtin.len_ #[t] o.type #[v]).run P w = .ok u w)
    (h : wpListIn F n P ops Q rest (a.put o.dst u) w) : wpListIn F n P ops Q (o :: rest) a w := by
  refine wpListIn_plain hgd fun K hK => ?_
  unfold Oper.wpIn
  refine ⟨by simp [Oper.about, ho, resolve, Target.leads, Sem.run_pure], ?_⟩
  rw [Oper.semAt_plain F _ _ (by rw [ho]; intro c hc; cases hc)]
  unfold execOp
  simp only [ho, resolve, invoke, builtin, Sem.run_bind, Sem.run_pure, Result.andThen_ok, List.map_toArray, List.map_cons, List.map_nil, hm, hr]
  exact hK _ _ h
theorem MapOf.sizes {D : DataW Unit} {l : List (List Int)} (h : MapOf D l) {x : List Int} (hx : isB x) (d : DataW Unit) : Maps.size (D.put (litOf x) d) = if x ∈ l then Maps.size D else Maps.size D + 1 := by
  rw [Maps.size_put h.tidy]
  have h2 := h.has (strOfNums x).data.toList
  rw [numsI_str x hx] at h2
  rw [show Maps.has D (litOf x) = decide (x ∈ l) from h2]
  by_cases e : x ∈ l <;> simp [e]
theorem wf_count (c : Nat) (h : c ≤ 1000000000000) : (Lit.int .i64 ((c : Int) + 1)).wf = true := by
  have h1 : IntKind.i64.min = -9223372036854775808 := by decide
  have h2 : IntKind.i64.max = 9223372036854775807 := by decide
  show (decide (IntKind.i64.min ≤ (c : Int) + 1) && decide ((c : Int) + 1 ≤ IntKind.i64.max)) = true
  rw [h1, h2, Bool.and_eq_true, decide_eq_true_iff, decide_eq_true_iff]
  omega
/-- What has been counted, in a map. -/
structure CntR (w W1 : World) (pre : List (List Int)) (A : World) : Prop where
  map : ∃ D Lp, A.ownsMap Try.prog 9 (plainElem Try.prog 3) (w.heap.size + 3) pre.length D ∧ MapOf D pre ∧ termsF pre [] = some Lp ∧ Counted pre Lp
  rest : ∀ k, k < W1.heap.size → k ≠ w.heap.size + 3 → A.heap[k]? = W1.heap[k]?
  oth : A.os = W1.os ∧ A.tape = W1.tape ∧ A.output = W1.output ∧ W1.heap.size ≤ A.heap.size
/-- There are too many words. -/
structure CntX (w W1 : World) (us : List (List Int)) (A : World) : Prop where
  fail : termsF us [] = none
  r1 : A.heap[w.heap.size + 1]? = some (.cells #[.slice none 0 0] 33 (0, 0))
  r2 : A.heap[w.heap.size + 2]? = some (.cells #[.int .i64 101] 34 (0, 0))
  rest : ∀ k, k < w.heap.size → A.heap[k]? = W1.heap[k]?
  oth : A.os = W1.os ∧ A.tape = W1.tape ∧ A.output = W1.output ∧ W1.heap.size ≤ A.heap.size
theorem cnt_fail {w W1 C w2 : World} {us : List (List Int)} (hz : W1.heap.size = w.heap.size + 6) (hfail : termsF us [] = none) (hg : C.grownBy w2 (some (w.heap.size + 3))) (hrest : ∀ k, k < W1.heap.size → k ≠ w.heap.size + 3 → C.heap[k]? = W1.heap[k]?)
    (hoth : C.os = W1.os ∧ C.tape = W1.tape ∧ C.output = W1.output ∧ W1.heap.size ≤ C.heap.size) (q1 : W1.heap[w.heap.size + 1]? = some (.cells #[.slice none 0 0] 33 (0, 0))) (q2 : W1.heap[w.heap.size + 2]? = some (.cells #[.int .i64 0] 34 (0, 0))) :
    Rnd (fun _ k => k = w.heap.size + 1 ∨ k = w.heap.size + 2 ∨ k = w.heap.size + 3) C ((w2.setCell ⟨w.heap.size + 1, 0, none⟩ (.slice none 0 0)).setCell ⟨w.heap.size + 1 + 1, 0, none⟩ (.int .i64 101)) ∧ Code.ret = Code.ret ∧ CntX w W1 us ((w2.setCell ⟨w.heap.size + 1, 0, none⟩ (.slice none 0 0)).setCell ⟨w.heap.size + 1 + 1, 0, none⟩ (.int .i64 101)) := by
  have hz2 := hg.size
  have hz3 := hoth.2.2.2
  have old : ∀ k, k < C.heap.size → k ≠ w.heap.size + 3 → w2.heap[k]? = C.heap[k]? := fun k hk hn => hg.block k hk (fun e => hn (by injection e))
  have r1 : w2.heap[w.heap.size + 1]? = some (.cells #[.slice none 0 0] 33 (0, 0)) := (old _ (by omega) (by omega)).trans ((hrest _ (by omega) (by omega)).trans q1)
  have r2 : w2.heap[w.heap.size + 2]? = some (.cells #[.int .i64 0] 34 (0, 0)) := (old _ (by omega) (by omega)).trans ((hrest _ (by omega) (by omega)).trans q2)
  have e1 : (w2.setCell ⟨w.heap.size + 1, 0, none⟩ (.slice none 0 0)).heap[w.heap.size + 1]? = some (.cells #[.slice none 0 0] 33 (0, 0)) := by
    have := heap_setCell_same _ _ 0 _ _ (.slice none 0 0) r1
    simpa using this
  have e2 : (w2.setCell ⟨w.heap.size + 1, 0, none⟩ (.slice none 0 0)).heap[w.heap.size + 2]? = some (.cells #[.int .i64 0] 34 (0, 0)) := (Below.heap_setCell _ _ _ _ (by simp)).trans r2
  have e3 : ((w2.setCell ⟨w.heap.size + 1, 0, none⟩ (.slice none 0 0)).setCell ⟨w.heap.size + 1 + 1, 0, none⟩ (.int .i64 101)).heap[w.heap.size + 2]? = some (.cells #[.int .i64 101] 34 (0, 0)) := by
    have := heap_setCell_same _ _ 0 _ _ (.int .i64 101) e2
    simpa using this
  have keepk : ∀ k, k ≠ w.heap.size + 1 → k ≠ w.heap.size + 2 → ((w2.setCell ⟨w.heap.size + 1, 0, none⟩ (.slice none 0 0)).setCell ⟨w.heap.size + 1 + 1, 0, none⟩ (.int .i64 101)).heap[k]? = w2.heap[k]? := fun k h1 h2 => (Below.heap_setCell _ _ _ _ h2).trans (Below.heap_setCell _ _ _ _ h1)
  have sz : ((w2.setCell ⟨w.heap.size + 1, 0, none⟩ (.slice none 0 0)).setCell ⟨w.heap.size + 1 + 1, 0, none⟩ (.int .i64 101)).heap.size = w2.heap.size := by simp [World.setCell]
  refine ⟨⟨hg.os, hg.tape, hg.output, by omega, fun k hk hn => (keepk k (fun e => hn (.inl e)) (fun e => hn (.inr (.inl e)))).trans (old k hk (fun e => hn (.inr (.inr e)))), fun k h => .inl h⟩, rfl, hfail, ?_, e3, fun k hk => ?_, hg.os.trans hoth.1, hg.tape.trans hoth.2.1, hg.output.trans hoth.2.2.1, by omega⟩
  · exact (Below.heap_setCell _ _ _ _ (by simp)).trans e1
  · rw [keepk k (by omega) (by omega), old k (by omega) (by omega)]
    exact hrest k (by omega) (by omega)
theorem results_terms {fn : Func} {p q : Tmp} (h : fn.results = #[.cell p 33, .cell q 34]) (tmps : Array Value) (w : World) (g k : Nat) (a : Option Addr) (n c : Nat) (e : Int) (hp : tmps.getD p undef = .pointer (some ⟨g, 0, none⟩)) (hq : tmps.getD q undef = .pointer (some ⟨k, 0, none⟩))
    (hc : w.cell? ⟨g, 0, none⟩ = some (.slice a n c)) (he : w.cell? ⟨k, 0, none⟩ = some (.int .i64 e)) : (results fn tmps).run Try.prog w = .ok (.tuple #[.slice a n c, .int .i64 e]) w := by
  have hp' : tmps[p]?.getD undef = .pointer (some ⟨g, 0, none⟩) := by simpa using hp
  have hq' : tmps[q]?.getD undef = .pointer (some ⟨k, 0, none⟩) := by simpa using hq
  simp [results, h, hp', hq', asAddr, go_sem, hc, he]
theorem apTerm (A : World) (B : Nat) (v : Value) (L : List Tm) (y : List Int) (c : Nat) (hown : OwnT A B v L) (hl : L.length ≤ 1000) (hB : B ≤ A.heap.size) :
    ∃ v' w', (Builtin.append_ #[33, 33] 33 #[v, .slice (some ⟨A.heap.size, 0, none⟩) 1 1]).run Try.prog (A.alloc (.cells #[.string (strOfNums y), .int .i64 (c : Nat)] 38)) = .ok v' w' ∧
      OwnT w' B v' (L ++ [(y, c)]) ∧ (A.alloc (.cells #[.string (strOfNums y), .int .i64 (c : Nat)] 38)).grownBy w' v.ownBlock := by
  obtain ⟨i0, hi0, hz0, hz1, hz2⟩ := info_parts info_term
  have hcs := row_cells (heap_alloc_new A (.cells #[.string (strOfNums y), .int .i64 (c : Nat)] 38))
  obtain ⟨v', w', hr, h1, h2, -, -⟩ := run_append_own_at (P := Try.prog) (A.alloc (.cells #[.string (strOfNums y), .int .i64 (c : Nat)] 38)) B 33 33 38 i0 _ 2 24 Try.underlying33 hi0 hz0 hz1 hz2 rfl (by decide) v L.length (L.flatMap tcells) (World.ownsRow.alloc hown _) ⟨A.heap.size, 0, none⟩ 1 1 [.string (strOfNums y), .int .i64 (c : Nat)] rfl
    (fun j u hj => by
      have hadd : (⟨A.heap.size, 0, none⟩ : Addr).add j = ⟨A.heap.size, j, none⟩ := by unfold Addr.add; split <;> simp_all
      rw [hadd, hcs j]
      simpa using hj) (by intro u hu; simp at hu; rcases hu with rfl | rfl <;> rfl) (by unfold maxLen; omega) (by omega) (by simp; omega)
  refine ⟨v', w', hr, ?_, h2⟩
  unfold OwnT
  rw [List.length_append, List.flatMap_append]
  exact h1
theorem row_slice {w : World} {B : Nat} {e : TypeId} {sz : Nat} {v : Value} {n : Nat} {xs : List Value} (h : w.ownsRow B e sz v n xs) : ∃ a m c, v = .slice a m c := by
  rcases h.2 with ⟨hv, _⟩ | ⟨g, cap, cur, hv, _⟩
  · exact ⟨_, _, _, hv⟩
  · exact ⟨_, _, _, hv⟩
theorem encStr_nums (b : List UInt8) : encStr b = Value.string (strOfNums (numsI b)) := by
  have e : strOfNums (numsI b) = ⟨b.toArray⟩ := by
    apply ByteArray.ext
    apply Array.ext'
    rw [str_numsI]
  rw [e]
theorem sorted_own {w : World} {B : Nat} {v : Value} {ss : List (List UInt8)} (h : w.ownsRow B 9 1 v ss.length ((ss.mergeSort Go.leB).map encStr)) : OwnS w B v ((ss.mergeSort Go.leB).map numsI) := by
  unfold OwnS stV
  rw [List.map_map, List.length_map, List.length_mergeSort]
  have e : ((fun w => Value.string (strOfNums w)) ∘ numsI) = encStr := funext fun b => (encStr_nums b).symm
  rw [e]
  exact h
theorem terms_words (us : List (List Int)) (ss : List (List UInt8)) {k : Nat} {y : List Int} (h : ((ss.mergeSort Go.leB).map numsI)[k]? = some y) : (termsOf us (ss.mergeSort Go.leB))[k]? = some (y, us.count y) := by
  unfold termsOf
  rw [List.getElem?_map, Option.map_eq_some_iff] at h ⊢
  obtain ⟨b, hb, rfl⟩ := h
  exact ⟨b, hb, rfl⟩
/-- The terms so far. -/
structure LoopT (A3 : World) (Lp : List Tm) (u : Value) (k : Nat) (wr : World) : Prop where
  row : OwnT wr A3.heap.size u (Lp.take k)
  below : Below A3.heap.size A3 wr
theorem row_same {w w' : World} {B : Nat} {e : TypeId} {sz : Nat} {v : Value} {n : Nat} {xs : List Value} (h : w.ownsRow B e sz v n xs) (hb : ∀ g, v.ownBlock = some g → w'.heap[g]? = w.heap[g]?) : w'.ownsRow B e sz v n xs := by
  obtain ⟨h1, h2⟩ := h
  refine ⟨h1, ?_⟩
  rcases h2 with h2 | ⟨g, cap, cur, hv, hB, hg, rest⟩
  · exact .inl h2
  · exact .inr ⟨g, cap, cur, hv, hB, (hb g (by rw [hv]; rfl)).trans hg, rest⟩
theorem OwnT.lowT {w : World} {B : Nat} {v : Value} {L : List Tm} (h : OwnT w B v L) {C : Nat} (hC : C ≤ B) : OwnT w C v L := by
  obtain ⟨h1, h2⟩ := h
  refine ⟨h1, ?_⟩
  rcases h2 with h2 | ⟨g, cap, cur, hv, hB, rest⟩
  · exact .inl h2
  · exact .inr ⟨g, cap, cur, hv, by omega, rest⟩
theorem terms_fin {us : List (List Int)} {L : List Tm} {w wr : World} {B D : Nat} {a : Option Addr} {m c : Nat} (hown : OwnT wr B (.slice a m c) L) (hB : w.heap.size + 3 ≤ B) (hz : w.heap.size + 3 ≤ wr.heap.size) (q1 : wr.heap[w.heap.size + 1]? = some (.cells #[.slice none 0 0] 33 (0, 0)))
    (q2 : wr.heap[w.heap.size + 2]? = some (.cells #[.int .i64 0] 34 (0, 0))) (qD : wr.heap[D]? = some (.deferred (some []))) (hD : w.heap.size + 3 ≤ D) (hrun : termsF us [] = some L) (hb : Below w.heap.size w wr) :
    ((wr.setCell ⟨w.heap.size + 1, 0, none⟩ (.slice a m c)).setCell ⟨w.heap.size + 2, 0, none⟩ (.int .i64 0)).heap[D]? = some (.deferred (some [])) ∧
    (((wr.setCell ⟨w.heap.size + 1, 0, none⟩ (.slice a m c)).setCell ⟨w.heap.size + 2, 0, none⟩ (.int .i64 0)).putObj D (.deferred none)).cell? ⟨w.heap.size + 1, 0, none⟩ = some (.slice a m c) ∧
    (((wr.setCell ⟨w.heap.size + 1, 0, none⟩ (.slice a m c)).setCell ⟨w.heap.size + 2, 0, none⟩ (.int .i64 0)).putObj D (.deferred none)).cell? ⟨w.heap.size + 2, 0, none⟩ = some (.int .i64 0) ∧
    TermsTo w (termsF us []) (.returned (.tuple #[.slice a m c, .int .i64 0])) (((wr.setCell ⟨w.heap.size + 1, 0, none⟩ (.slice a m c)).setCell ⟨w.heap.size + 2, 0, none⟩ (.int .i64 0)).putObj D (.deferred none)) := by
  obtain ⟨V, hV⟩ : ∃ V, (wr.setCell ⟨w.heap.size + 1, 0, none⟩ (.slice a m c)).setCell ⟨w.heap.size + 2, 0, none⟩ (.int .i64 0) = V := ⟨_, rfl⟩
  have old : ∀ k, k ≠ w.heap.size + 1 → k ≠ w.heap.size + 2 → V.heap[k]? = wr.heap[k]? := fun k h1 h2 => by rw [← hV]; exact (Below.heap_setCell _ _ _ _ h2).trans (Below.heap_setCell _ _ _ _ h1)
  have e1 : V.heap[w.heap.size + 1]? = some (.cells #[.slice a m c] 33 (0, 0)) := by
    rw [← hV, Below.heap_setCell _ _ _ _ (by simp)]
    have := heap_setCell_same _ _ 0 _ _ (.slice a m c) q1
    simpa using this
  have e2 : V.heap[w.heap.size + 2]? = some (.cells #[.int .i64 0] 34 (0, 0)) := by
    rw [← hV]
    have := heap_setCell_same _ _ 0 _ _ (.int .i64 0) ((Below.heap_setCell wr ⟨w.heap.size + 1, 0, none⟩ (.slice a m c) (w.heap.size + 2) (by simp)).trans q2)
    simpa using this
  have bV : Below w.heap.size w V := by rw [← hV]; exact (hb.setCell (p := ⟨w.heap.size + 1, 0, none⟩) (by simp) _).setCell (p := ⟨w.heap.size + 2, 0, none⟩) (by simp) _
  rw [hV]
  have eD : V.heap[D]? = some (.deferred (some [])) := (old D (by omega) (by omega)).trans qD
  refine ⟨eD, (row_cell ((World.putObj_heap_other (by omega)).trans e1)).1, (row_cell ((World.putObj_heap_other (by omega)).trans e2)).1, ?_, bV.grown (grownBy_putObj' V D (.deferred none)) (by have := bV.size; omega) (fun k e => by cases e; omega)⟩
  rw [hrun]
  refine ⟨_, rfl, ?_⟩
  have h1 : OwnT (V.putObj D (.deferred none)) B (.slice a m c) L := by
    refine row_same hown fun g hg => ?_
    have hgb := hown.block g hg
    have hgD : g ≠ D := fun e => by
      subst e
      rcases hown.2 with ⟨hv, _⟩ | ⟨g', cap, cur, hv, hb', hc, _⟩
      · rw [hv] at hg; cases hg
      · rw [hv] at hg
        injection hg with hg
        subst hg
        rw [qD] at hc
        cases hc
    rw [World.putObj_heap_other hgD, old g (by omega) (by omega)]
  exact h1.lowT (by omega)
set_option maxHeartbeats 4000000 in
theorem pterms_any (t : T) (ok : t.ok) (w : World) (hin : t.In w) (hm : (allW t.val).length ≤ 1000000000000) :
    Calls Try.prog 10 #[t.arg] w (TermsTo w (termsF (allW t.val) [])) := by
  obtain ⟨kx, nx, sx, lax, lcx, lx, dax, dcx, dx⟩ := t
  show Calls _ _ #[.agg #[.int .i64 kx, .int .i64 nx, .string sx, .slice lax lx.length lcx, .slice dax dx.length dcx]] _ _
  obtain ⟨V0, hV0⟩ : ∃ V0, ((w.alloc (.cells #[.int .i64 kx, .int .i64 nx, .string sx, .slice lax lx.length lcx, .slice dax dx.length dcx] 30)).alloc (.cells #[.slice none 0 0] 33)).alloc (.cells #[.int .i64 0] 34) = V0 := ⟨_, rfl⟩
  obtain ⟨W0, hW0⟩ : ∃ W0, (V0.alloc (.map #[] 0)).alloc (.cells #[.map (some (w.heap.size + 3))] 49) = W0 := ⟨_, rfl⟩
  obtain ⟨W1, hW1⟩ : ∃ W1, W0.alloc (.cells #[.int .i64 kx, .int .i64 nx, .string sx, .slice lax lx.length lcx, .slice dax dx.length dcx] 30) = W1 := ⟨_, rfl⟩
  have v0 : V0.heap.size = w.heap.size + 3 := by rw [← hV0]; simp
  have z0 : W0.heap.size = w.heap.size + 5 := by rw [← hW0]; simp; omega
  have z1 : W1.heap.size = w.heap.size + 6 := by rw [← hW1]; simp; omega
  have b0 : Below w.heap.size w V0 := by rw [← hV0]; exact ((((Below.refl _ w).alloc (Nat.le_refl _) _).alloc (by simp) _).alloc (by simp; omega) _)
  have b1 : Below w.heap.size w W1 := by rw [← hW1, ← hW0]; exact (((b0.alloc (by omega) _).alloc (by simp; omega) _).alloc (by simp; omega) _)
  have b2 : Below V0.heap.size V0 W1 := by rw [← hW1, ← hW0]; exact ((((Below.refl _ V0).alloc (Nat.le_refl _) _).alloc (by simp) _).alloc (by simp; omega) _)
  have qV0 : V0.heap[w.heap.size]? = some (.cells #[.int .i64 kx, .int .i64 nx, .string sx, .slice lax lx.length lcx, .slice dax dx.length dcx] 30 (0, 0)) := by
    rw [← hV0]
    exact (Below.heap_alloc _ _ _ (by simp; omega)).trans ((Below.heap_alloc _ _ _ (by simp)).trans (heap_alloc_new w _))
  have qR1 : V0.heap[w.heap.size + 1]? = some (.cells #[.slice none 0 0] 33 (0, 0)) := by
    rw [← hV0]
    refine (Below.heap_alloc _ _ _ (by simp)).trans ?_
    have := heap_alloc_new (w.alloc (.cells #[.int .i64 kx, .int .i64 nx, .string sx, .slice lax lx.length lcx, .slice dax dx.length dcx] 30)) (.cells #[.slice none 0 0] 33)
    rw [World.size_alloc] at this
    exact this
  have qR2 : V0.heap[w.heap.size + 2]? = some (.cells #[.int .i64 0] 34 (0, 0)) := by
    rw [← hV0]
    have := heap_alloc_new ((w.alloc (.cells #[.int .i64 kx, .int .i64 nx, .string sx, .slice lax lx.length lcx, .slice dax dx.length dcx] 30)).alloc (.cells #[.slice none 0 0] 33)) (.cells #[.int .i64 0] 34)
    rw [World.size_alloc, World.size_alloc] at this
    exact this
  have qM : W1.ownsMap Try.prog 9 (plainElem Try.prog 3) (w.heap.size + 3) 0 (.map [] : DataW Unit) := by
    rw [← hW1, ← hW0]
    have h := World.ownsMap_made V0 Try.prog 9 (plainElem (H := Unit) Try.prog 3)
    rw [v0] at h
    exact (h.alloc _).alloc _
  have qC : W1.heap[w.heap.size + 4]? = some (.cells #[.map (some (w.heap.size + 3))] 49 (0, 0)) := by
    rw [← hW1, ← hW0]
    refine (Below.heap_alloc _ _ _ (by simp; omega)).trans ?_
    have := heap_alloc_new (V0.alloc (.map #[] 0)) (.cells #[.map (some (w.heap.size + 3))] 49)
    rw [World.size_alloc, v0] at this
    exact this
  have qB : W1.heap[w.heap.size + 5]? = some (.cells #[.int .i64 kx, .int .i64 nx, .string sx, .slice lax lx.length lcx, .slice dax dx.length dcx] 30 (0, 0)) := by
    rw [← hW1, ← z0]
    exact heap_alloc_new W0 _
  have cvW := row_cells (show W0.heap[w.heap.size]? = _ from by rw [← hW0]; exact (Below.heap_alloc _ _ _ (by simp; omega)).trans ((Below.heap_alloc _ _ _ (by omega)).trans qV0))
  have HQ := Lib.hid (And.intro (b2.block (w.heap.size + 1) (by omega) |>.trans qR1) (And.intro (b2.block (w.heap.size + 2) (by omega) |>.trans qR2) (And.intro qM (And.intro qC (And.intro qB b1)))))
  have hR := wordsIn_any (.mk kx nx sx lax lcx lx dax dcx dx) W0
  rw [← hW0, ← hV0] at hR
  have hR := Lib.hid hR
  have hrf : Fence.wide.fn 14 := trivial
  have hmm := @run_makeMap Try.prog
  have HI := Lib.hid hin
  have HO := Lib.hid ok
  have E0 := Lib.hid hV0
  have E1 := Lib.hid hW0
  have E2 := Lib.hid hW1
  have d0 := row_cells (heap_alloc_new w (.cells #[.int .i64 kx, .int .i64 nx, .string sx, .slice lax lx.length lcx, .slice dax dx.length dcx] 30))
  clear qV0 qR1 qR2 qM qC qB b0 b1 b2 hin ok hV0 hW0 hW1 v0 cvW
  refine (callsIn_wide (n := 8)).1 ?_
  refine callsIn_of_wp_marks Try.func10 rfl trivial ?_ rfl
  simp only [Try.ntmps10, List.size_toArray, List.length_cons, List.length_nil, Nat.reduceAdd, Nat.reduceSub, Array.replicate_succ, Array.replicate_zero, List.push_toArray, List.append_toArray, List.nil_append, List.cons_append]
  gi_wp2_with (gi_at_call 14; refine (callsIn_wide.2 hR.out).mono ?_; rintro e w1 ⟨rfl, rfl⟩)
  show Code.wpIn _ _ _ _ _ _ ((((((w.alloc (.cells #[.int .i64 kx, .int .i64 nx, .string sx, .slice lax lx.length lcx, .slice dax dx.length dcx] 30)).alloc (.cells #[.slice none 0 0] 33)).alloc (.cells #[.int .i64 0] 34)).alloc (.map #[] 0)).alloc (.cells #[.map (some (w.heap.size + 3))] 49)).alloc (.cells #[.int .i64 kx, .int .i64 nx, .string sx, .slice lax lx.length lcx, .slice dax dx.length dcx] 30))
  rw [E0.out, E1.out, E2.out]
  clear hR d0 hmm
  obtain ⟨us, husE⟩ : ∃ us, allW (T.val (T.mk kx nx sx lax lcx lx dax dcx dx)) = us := ⟨_, rfl⟩
  have hus : ∀ x ∈ us, isWord x := by rw [← husE]; exact allW_are _
  rw [husE] at hm
  have hseq := wordsIn_tell (T.mk kx nx sx lax lcx lx dax dcx dx) HO.out w HI.out W1 HQ.out.2.2.2.2.2 (w.heap.size + 5) HQ.out.2.2.2.2.1
  rw [husE] at hseq
  have HW := Lib.hid (And.intro hus husE)
  clear hus husE
  refine wp_tell (by omega) (gf := 21) (lb := #[.pointer (some ⟨w.heap.size + 5, 0, none⟩)]) rfl (enters_of Try.func21 (by kernel_rfl) rfl)
    hseq (fun k hk => by rcases hk with rfl | hk <;> omega) (Below.refl _ _) (fun _ => rfl) (fun _ k => k = w.heap.size + 1 ∨ k = w.heap.size + 2 ∨ k = w.heap.size + 3) (fun _ _ _ _ _ => Iff.rfl)
    (CntR w W1) (fun c _ A => c = .ret ∧ CntX w W1 us A)
    (fun pre B C hz h i => by
      obtain ⟨⟨D, Lp, h1, h2, h3, h4⟩, h5, h6⟩ := h
      exact ⟨⟨D, Lp, ownsMap_at h1 (i.same _ (by omega) (.inl (by omega))), h2, h3, h4⟩, fun k hk hn => (i.same k (by omega) (.inl hk)).trans (h5 k hk hn), i.os.trans h6.1, i.tape.trans h6.2.1, i.output.trans h6.2.2.1, Nat.le_trans h6.2.2.2 i.size⟩)
    (fun c pre B C hz h i => by
      obtain ⟨hc, h⟩ := h
      have := h.oth.2.2.2
      exact ⟨hc, h.fail, (i.same _ (by omega) (.inl (by omega))).trans h.r1, (i.same _ (by omega) (.inl (by omega))).trans h.r2, fun k hk => (i.same k (by omega) (.inl (by omega))).trans (h.rest k hk), i.os.trans h.oth.1, i.tape.trans h.oth.2.1, i.output.trans h.oth.2.2.1, Nat.le_trans h.oth.2.2.2 i.size⟩)
    (fun pre B h k hk => by
      have := h.oth.2.2.2
      refine ⟨?_, ?_⟩
      · rcases hk with rfl | rfl | rfl <;> omega
      · rcases hk with rfl | rfl | rfl <;> omega) ⟨⟨.map [], [], HQ.out.2.2.1, MapOf.start, rfl, Counted.nil⟩, fun _ _ _ => rfl, rfl, rfl, rfl, Nat.le_refl _⟩
    (fun x a' B => a' = { tmps := #[.agg #[.int .i64 kx, .int .i64 nx, .string sx, .slice lax lx.length lcx, .slice dax dx.length dcx], .pointer (some ⟨w.heap.size, 0, none⟩), .pointer (some ⟨w.heap.size + 1, 0, none⟩), .pointer (some ⟨w.heap.size + 1 + 1, 0, none⟩), .pointer (some ⟨w.heap.size + 1 + 1 + 1 + 1, 0, none⟩), .string (strOfNums x), undef, undef, undef, .map (some (w.heap.size + 1 + 1 + 1)), .agg #[.int .i64 kx, .int .i64 nx, .string sx, .slice lax lx.length lcx, .slice dax dx.length dcx],
      .func (.func 21) #[] #[.pointer (some ⟨w.heap.size + 1 + 1 + 1 + 1 + 1, 0, none⟩)], .string (strOfNums x), undef, undef, undef, undef, undef, undef, undef, undef, undef, undef, undef, undef, undef, undef, undef, undef, undef, undef, undef, undef, undef, undef, undef, undef, undef], defers := [] })
    (fun x a' A B _ h _ => h) ?assign ?body ?done ?stop
  case assign =>
    intro l1 pre x A K hz hI hK
    gi_wp2
    exact hK _ _ (Below.refl _ _) rfl
  case body =>
    rintro l1 pre x a' C hz hI rfl hpre
    have hx : isWord x := HW.out.1 x (hpre.subset (by simp))
    have hxb := word_isB hx
    have hxl : x.length ≤ 1000 := by have := hx.1; omega
    have hzC := hI.oth.2.2.2
    have cb := row_cell ((hI.rest (w.heap.size + 4) (by omega) (by omega)).trans HQ.out.2.2.2.1)
    have hplen : pre.length ≤ us.length := by have := hpre.length_le; simp at this; omega
    obtain ⟨⟨D, Lp, hmap, hmo, hrun, hcnt⟩, hrest, hoth⟩ := hI
    have hkey := key_wordT x hxl
    obtain ⟨c, hc⟩ : ∃ c, pre.count x = c := ⟨_, rfl⟩
    have hcl : c ≤ 1000000000000 := by have := List.count_le_length (a := x) (l := pre); omega
    have hwf := wf_count c hcl
    have hsz := hmo.sizes hxb (.lit (.int .i64 ((c : Int) + 1)))
    rw [hmo.size (keys_str hmap) hcnt (fun y hy => word_isB (HW.out.1 y (hpre.subset (List.mem_append_left _ hy))))] at hsz
    obtain ⟨D2, hD2⟩ : ∃ D2, D.put (litOf x) (.lit (.int .i64 ((c : Int) + 1))) = D2 := ⟨_, rfl⟩
    have hmo2 : MapOf D2 (pre ++ [x]) := by rw [← hD2, ← hc]; exact hmo.put hxb
    rw [hD2] at hsz
    obtain ⟨sz, hszE⟩ : ∃ sz, Maps.size D2 = sz := ⟨_, rfl⟩
    rw [hszE] at hsz
    have hfew := hcnt.few
    have HC := Lib.hid (And.intro hmo (And.intro hrun (And.intro hcnt (And.intro hmo2 (And.intro hc hD2)))))
    have HR := Lib.hid (And.intro hrest hoth)
    have HS := Lib.hid hszE
    clear hrun hcnt hmo2 hrest hoth hszE hD2
    have hk : ∀ y, y ∈ keysT Lp ↔ y ∈ pre := HC.out.2.2.1.keys
    cases hadd : addW Lp x with
    | some Lq =>
      have hs2 : sz ≤ 200 := by
        unfold addW at hadd
        rw [hsz]
        split
        · exact hfew
        · rename_i hn
          split at hadd
          · cases hadd
          · rename_i hnn
            have : ¬ (200 ≤ Lp.length) := fun h => hnn ⟨fun hm => hn ((hk x).1 hm), h⟩
            omega
      have HAdd := Lib.hid hadd
      have hd2 : decide ((200 : Int) < (sz : Int)) = false := decide_eq_false (by omega)
      clear hadd hsz hk hs2 hfew
      gi_wp2_with (first
        | (gi_at_lookup; refine wpListIn_lookup_cnt rfl _ _ rfl (w.heap.size + 3) pre.length D pre x rfl hmap rfl hxb hxl HC.out.1 ?_; rw [HC.out.2.2.2.2.1])
        | (gi_at_mapUpdate; refine wpListIn_mapUpdate_own _ rfl _ _ _ 49 rfl 9 3 kstr Try.underlying49 (plainElem Try.prog 3) (w.heap.size + 3) pre.length D rfl hmap (by unfold maxLen; omega) _ _ _ rfl rfl hkey _ [] (plainElem_int Try.underlying3 hwf) ?_; intro w2 hown2 hgrow2; rw [HC.out.2.2.2.2.2] at hown2; have cb2 := row_cell ((hgrow2.block (w.heap.size + 4) (by omega) (by simp)).trans ((HR.out.1 (w.heap.size + 4) (by omega) (by omega)).trans HQ.out.2.2.2.1)); have c1 := row_cell ((hgrow2.block (w.heap.size + 1) (by omega) (by simp)).trans ((HR.out.1 (w.heap.size + 1) (by omega) (by omega)).trans HQ.out.1)); have c2 := row_cell ((hgrow2.block (w.heap.size + 2) (by omega) (by simp)).trans ((HR.out.1 (w.heap.size + 2) (by omega) (by omega)).trans HQ.out.2.1)); have hlen := hown2.len Try.underlying49 3; rw [HS.out] at hlen; have HG := Lib.hid (And.intro hown2 hgrow2); clear hown2 hgrow2)
        | (gi_at_builtin; refine wpListIn_lenRun rfl _ 49 rfl _ _ rfl hlen ?_))
      refine ⟨⟨HG.out.2.os, HG.out.2.tape, HG.out.2.output, HG.out.2.size, fun k hk hn => HG.out.2.block k hk (fun e => hn (.inr (.inr (by injection e)))), fun k h => .inl h⟩, ⟨D2, Lq, ?_, HC.out.2.2.2.1, ?_, ?_⟩, fun k hk hn => (HG.out.2.block k (by omega) (fun e => hn (by injection e))).trans (HR.out.1 k hk hn), HG.out.2.os.trans HR.out.2.1, HG.out.2.tape.trans HR.out.2.2.1, HG.out.2.output.trans HR.out.2.2.2.1, Nat.le_trans HR.out.2.2.2.2 HG.out.2.size⟩
      · rw [List.length_append]; exact HG.out.1
      · rw [termsF_append, HC.out.2.1]
        show (addW Lp x).bind (termsF []) = some Lq
        rw [HAdd.out]; rfl
      · exact HC.out.2.2.1.add (fun y hy => word_isB (HW.out.1 y (hpre.subset (List.mem_append_left _ hy)))) hxb HAdd.out
    | none =>
      have hs2 : sz = 201 := by
        unfold addW at hadd
        split at hadd
        · rename_i hnn
          rw [hsz, if_neg (fun hm => hnn.1 ((hk x).2 hm))]
          omega
        · cases hadd
      have HAdd := Lib.hid hadd
      clear hadd hsz hk hfew
      subst hs2
      gi_wp2_with (first
        | (gi_at_lookup; refine wpListIn_lookup_cnt rfl _ _ rfl (w.heap.size + 3) pre.length D pre x rfl hmap rfl hxb hxl HC.out.1 ?_; rw [HC.out.2.2.2.2.1])
        | (gi_at_mapUpdate; refine wpListIn_mapUpdate_own _ rfl _ _ _ 49 rfl 9 3 kstr Try.underlying49 (plainElem Try.prog 3) (w.heap.size + 3) pre.length D rfl hmap (by unfold maxLen; omega) _ _ _ rfl rfl hkey _ [] (plainElem_int Try.underlying3 hwf) ?_; intro w2 hown2 hgrow2; rw [HC.out.2.2.2.2.2] at hown2; have cb2 := row_cell ((hgrow2.block (w.heap.size + 4) (by omega) (by simp)).trans ((HR.out.1 (w.heap.size + 4) (by omega) (by omega)).trans HQ.out.2.2.2.1)); have c1 := row_cell ((hgrow2.block (w.heap.size + 1) (by omega) (by simp)).trans ((HR.out.1 (w.heap.size + 1) (by omega) (by omega)).trans HQ.out.1)); have c2 := row_cell ((hgrow2.block (w.heap.size + 2) (by omega) (by simp)).trans ((HR.out.1 (w.heap.size + 2) (by omega) (by omega)).trans HQ.out.2.1)); have hlen := hown2.len Try.underlying49 3; rw [HS.out] at hlen; have HG := Lib.hid (And.intro hown2 hgrow2); clear hown2 hgrow2)
        | (gi_at_builtin; refine wpListIn_lenRun rfl _ 49 rfl _ _ rfl hlen ?_))
      have hfail : termsF us [] = none := by
        obtain ⟨r, hr⟩ := hpre
        rw [← hr, List.append_assoc, termsF_append, HC.out.2.1]
        show (addW Lp x).bind (termsF r) = none
        rw [HAdd.out]; rfl
      exact cnt_fail (by omega) hfail HG.out.2 HR.out.1 HR.out.2 HQ.out.1 HQ.out.2.1
  case stop =>
    intro D cc pre A hD hpre hI hr hd hK
    obtain ⟨rfl, hx⟩ := hI
    have hz := hx.oth.2.2.2
    have c1 := row_cell ((World.putObj_heap_other (by omega : w.heap.size + 1 ≠ D) : (A.putObj D (.deferred none)).heap[w.heap.size + 1]? = A.heap[w.heap.size + 1]?).trans hx.r1)
    have c2 := row_cell ((World.putObj_heap_other (by omega : w.heap.size + 2 ≠ D) : (A.putObj D (.deferred none)).heap[w.heap.size + 2]? = A.heap[w.heap.size + 2]?).trans hx.r2)
    have bA : Below w.heap.size w A := ⟨hx.oth.1.trans HQ.out.2.2.2.2.2.os, hx.oth.2.1.trans HQ.out.2.2.2.2.2.tape, hx.oth.2.2.1.trans HQ.out.2.2.2.2.2.output, by omega, fun k hk => (hx.rest k hk).trans (HQ.out.2.2.2.2.2.block k hk)⟩
    have HE : Hid (TermsTo w (termsF (allW (T.val (T.mk kx nx sx lax lcx lx dax dcx dx))) []) (.returned (.tuple #[.slice none 0 0, .int .i64 101])) (A.putObj D (.deferred none))) := by
      rw [HW.out.2]
      refine ⟨?_, bA.grown (grownBy_putObj' A D (.deferred none)) (by have := bA.size; omega) (fun k e => by cases e; omega)⟩
      rw [hx.fail]
    clear hx hr hd bA
    gi_wp2
    refine ⟨by simp, .inl ⟨_, _, rfl, run_takeDeferred hK, ?_⟩⟩
    exact ⟨_, results_terms (p := 2) (q := 3) rfl _ _ (w.heap.size + 1) (w.heap.size + 2) none 0 0 101 rfl rfl c1.1 c2.1, HE.out⟩
  case done =>
    intro D A hD hI hr hd hK
    obtain ⟨⟨Dm, Lp, hmap, hmo, hrun, hcnt⟩, hrest, hoth⟩ := hI
    have cb := row_cell ((hrest (w.heap.size + 4) (by omega) (by omega)).trans HQ.out.2.2.2.1)
    have hKs := Lib.hid (mkeys_any (some (w.heap.size + 3)) A)
    have hsz := hmo.size (keys_str hmap) hcnt (fun y hy => word_isB (HW.out.1 y hy))
    have hSo := Lib.hid (msorted_any (w.heap.size + 3) _ Dm _ A hmap (by rw [hsz]; have := hcnt.few; omega))
    have hfk : Fence.wide.fn 16 := trivial
    have hfs : Fence.wide.fn 15 := trivial
    have HD := Lib.hid (And.intro hmap (And.intro hmo (And.intro hrun (And.intro hcnt (And.intro hrest (And.intro hoth (And.intro hK hD)))))))
    clear hmap hmo hrun hcnt hrest hoth hr hd hsz hK hD
    gi_wp2_with (first
      | (gi_at_call 16; refine (callsIn_wide.2 hKs.out).mono ?_; rintro e w1 ⟨rfl, rfl⟩)
      | (gi_at_call 15; refine (callsIn_wide.2 hSo.out).mono ?_; rintro e A3 ⟨v, ss, rfl, hperm, hrow, hb3⟩; have o3 := sorted_own hrow; obtain ⟨ws, hws⟩ : ∃ ws, (ss.mergeSort Go.leB).map numsI = ws := ⟨_, rfl⟩; rw [hws] at o3; obtain ⟨a3, c3, rfl, i3, -, -, -⟩ := o3.shape; obtain ⟨n3, hn3⟩ : ∃ n3, ws.length = n3 := ⟨_, rfl⟩; rw [hn3]; have H3 := Lib.hid (And.intro hperm (And.intro i3 (And.intro hb3 (And.intro hws hn3)))); clear hperm hrow hb3 o3 i3 hws hn3))
    have hLp : termsOf us (ss.mergeSort Go.leB) = Lp := HD.out.2.1.terms (keys_str HD.out.1) HD.out.2.2.2.1 (fun y hy => word_isB (HW.out.1 y hy)) H3.out.1
    have hll : Lp.length = n3 := by rw [← hLp, ← H3.out.2.2.2.2, ← H3.out.2.2.2.1]; simp [termsOf]
    have hn200 : n3 ≤ 200 := by rw [← hll]; exact HD.out.2.2.2.1.few
    have hzA : w.heap.size + 7 ≤ A.heap.size := by have := (Array.getElem?_eq_some_iff.1 HD.out.2.2.2.2.2.2.1).1; have := HD.out.2.2.2.2.2.2.2; omega
    have b3 : Below A.heap.size A A3 := ((Below.refl _ A).alloc (Nat.le_refl _) _).trans (H3.out.2.2.1.mono (by simp))
    have HP := Lib.hid (And.intro hLp (And.intro hll b3))
    clear hLp hll b3
    gi_loopw [6, 24] (fun u i wr => ∃ (k : Nat) (a : Option Addr) (m c : Nat), k ≤ n3 ∧ i = .int .i64 k ∧ u = .slice a m c ∧ Hid (LoopT A3 Lp (.slice a m c) k wr)) (fun _ i _ => n3 - (intOf i).toNat)
    case atStart => exact ⟨0, none, 0, 0, by omega, rfl, rfl, OwnT.nil _ _, Below.refl _ _⟩
    case round =>
      obtain ⟨k, a, m, c, hk, rfl, rfl, HK⟩ := hrel
      by_cases h1 : k < n3
      · obtain ⟨y, hy⟩ : ∃ y, ws[k]? = some y := ⟨_, List.getElem?_eq_getElem (by have := H3.out.2.2.2.2; omega)⟩
        have hLk : Lp[k]? = some (y, us.count y) := by rw [← HP.out.1]; exact terms_words us ss (by rw [H3.out.2.2.2.1]; exact hy)
        have hyu : y ∈ us := (HD.out.2.2.2.1.keys y).1 (List.mem_map.2 ⟨_, List.mem_of_getElem? hLk, rfl⟩)
        have hyw := HW.out.1 y hyu
        have hyb := word_isB hyw
        have hyl : y.length ≤ 1000 := by have := hyw.1; omega
        have hz3 : A.heap.size ≤ A3.heap.size := HP.out.2.2.size
        have hzr := HK.out.below.size
        obtain ⟨b, o, rfl, hcy⟩ := H3.out.2.1 k y hy
        have hcy : wr.cell? ⟨b, o + k, none⟩ = some (.string (strOfNums y)) := (HK.out.below.cell (cell_lt hcy)).trans hcy
        have same : ∀ j, j < A.heap.size → wr.heap[j]? = A.heap[j]? := fun j hj => (HK.out.below.block j (by omega)).trans (HP.out.2.2.block j hj)
        have hmw := ownsMap_at HD.out.1 (same (w.heap.size + 3) (by omega))
        have cbw := row_cell ((same (w.heap.size + 4) (by omega)).trans ((HD.out.2.2.2.2.1 (w.heap.size + 4) (by omega) (by omega)).trans HQ.out.2.2.2.1))
        obtain ⟨cy, hcyE⟩ : ∃ cy, us.count y = cy := ⟨_, rfl⟩
        obtain ⟨v', w4, hap, ho4, hg4⟩ := apTerm wr A3.heap.size (.slice a m c) (Lp.take k) y cy HK.out.row (by rw [List.length_take]; omega) hzr
        obtain ⟨a', c', rfl, -⟩ := ho4.form
        generalize hm4 : (Lp.take k ++ [(y, cy)]).length = m4 at hap ho4
        have hk1 := Lib.hid h1
        rw [hcyE] at hLk
        have htk : Lp.take (k + 1) = Lp.take k ++ [(y, cy)] := by rw [List.take_add_one, hLk]; rfl
        have HE : Hid (LoopT A3 Lp (.slice a' m4 c') (k + 1) w4) := ⟨by rw [htk]; exact ho4, (HK.out.below.alloc hzr _).grown hg4 (by simp; omega) (fun g e => (HK.out.row.block g e).1)⟩
        have HM := Lib.hid HD.out.2.1
        clear hy hLk hyu hyw hz3 hzr same ho4 hg4 htk hzA hm4
        gi_wp2_with (first
          | (gi_at_lookup; refine wpListIn_lookup_cnt rfl _ _ rfl (w.heap.size + 3) us.length Dm us y rfl hmw rfl hyb hyl HM.out ?_; rw [hcyE])
          | (gi_at_builtin; refine wpListIn_apRun rfl (.tmp 28) (.tmp 34) 33 rfl _ _ _ _ rfl rfl hap ?_))
        go_roundw
        case rel =>
          exact ⟨k + 1, _, _, _, by have := hk1.out; omega, by go_num, rfl, HE⟩
        case measure => have := hk1.out; simp [intOf]; omega
      · have hkn : k = n3 := by omega
        have hz3 : A.heap.size ≤ A3.heap.size := HP.out.2.2.size
        have hzr := HK.out.below.size
        have hoz := HD.out.2.2.2.2.2.1.2.2.2
        have hDz := HD.out.2.2.2.2.2.2.2
        have same : ∀ j, j < A.heap.size → wr.heap[j]? = A.heap[j]? := fun j hj => (HK.out.below.block j (by omega)).trans (HP.out.2.2.block j hj)
        have q1 : wr.heap[w.heap.size + 1]? = some (.cells #[.slice none 0 0] 33 (0, 0)) := (same _ (by omega)).trans ((HD.out.2.2.2.2.1 _ (by omega) (by omega)).trans HQ.out.1)
        have q2 : wr.heap[w.heap.size + 2]? = some (.cells #[.int .i64 0] 34 (0, 0)) := (same _ (by omega)).trans ((HD.out.2.2.2.2.1 _ (by omega) (by omega)).trans HQ.out.2.1)
        have qD : wr.heap[D]? = some (.deferred (some [])) := (same D (by omega)).trans HD.out.2.2.2.2.2.2.1
        have c1 := row_cell q1
        have c2 := row_cell q2
        have hown := HK.out.row
        rw [hkn, List.take_of_length_le (by have := HP.out.2.1; omega)] at hown
        have hfin := terms_fin (us := us) (L := Lp) (w := w) hown (by omega) (by omega) q1 q2 qD (by omega) HD.out.2.2.1 (by
          have h1 : Below w.heap.size w A := ⟨HD.out.2.2.2.2.2.1.1.trans HQ.out.2.2.2.2.2.os, HD.out.2.2.2.2.2.1.2.1.trans HQ.out.2.2.2.2.2.tape, HD.out.2.2.2.2.2.1.2.2.1.trans HQ.out.2.2.2.2.2.output, by omega, fun j hj => (HD.out.2.2.2.2.1 j (by omega) (by omega)).trans (HQ.out.2.2.2.2.2.block j hj)⟩
          exact h1.trans ((HP.out.2.2.mono (by omega)).trans (HK.out.below.mono (by omega))))
        rw [← HW.out.2] at hfin
        have HE := Lib.hid hfin
        clear hfin same q1 q2 hown hz3 hzr hoz hDz
        have hK2 := HE.out.1
        have HE := Lib.hid HE.out.2
        gi_wp2
        refine ⟨by simp, .inl ⟨_, _, rfl, run_takeDeferred hK2, ?_⟩⟩
        exact ⟨_, results_terms (p := 2) (q := 3) rfl _ _ (w.heap.size + 1) (w.heap.size + 2) a m c 0 rfl rfl HE.out.1 HE.out.2.1, HE.out.2.2⟩
#print axioms pterms_any
end Go.Proofs.Ytgcbcmhdlgklgaa
