/- The program's stream of an epoch: what sectors have of it. No statement is proved here. -/
import Derived.Test.YtophhnolnlbecaaDoorQ21
import Derived.Test.YtophhnolnlbecaaDoorJPr4
import Derived.Laws.MakeOwn
import Derived.RangeFuncBox
import Derived.Test.YtophhnolnlbecaaDoorQ26
namespace Go.Proofs.YtophhnolnlbecaaDoor
open Go.RowKit
set_option maxRecDepth 100000
attribute [local go_sem] Oper.semAt_some

/-- A sector's part of the stream, and the first so many. -/
def partL (l : List Int) (q : Nat) : List Int := (l.drop (512 * q + 8)).take 504
def strmP (l : List Int) : Nat → List Int
  | 0 => []
  | q + 1 => strmP l q ++ partL l q
theorem strmP_len (l : List Int) : ∀ K, 512 * K ≤ l.length → (strmP l K).length = 504 * K
  | 0, _ => rfl
  | K + 1, h => by
    rw [strmP, List.length_append, strmP_len l K (by omega)]
    unfold partL
    rw [List.length_take, List.length_drop]
    omega
theorem strmP_byte {l : List Int} (h : isB l) : ∀ K, isB (strmP l K)
  | 0 => isB.nil
  | K + 1 => (strmP_byte h K).append2 ((h.drop _).take' _)
theorem stream_go (e : Int) (l : List Int) (N : Nat) (hN : N = l.length / 512) : ∀ j, j ≤ N → (∀ q, q < j → stampIs (l.drop (512 * q)) e) → streamN e N l = strmP l j ++ streamN e (N - j) (l.drop (512 * j))
  | 0, _, _ => by simp [strmP]
  | j + 1, hj, hs => by
    rw [stream_go e l N hN j (by omega) (fun q hq => hs q (by omega))]
    obtain ⟨k, hk⟩ : ∃ k, N - j = k + 1 := ⟨N - j - 1, by omega⟩
    rw [hk, show N - (j + 1) = k by omega, streamN, if_neg (by rw [List.length_drop]; omega), if_pos (show readE _ 0 8 = 0 ∧ readP _ 0 8 = e from hs j (by omega)), List.drop_drop, List.drop_drop, strmP, List.append_assoc]
    rfl
theorem stream_at (e : Int) (l : List Int) {K : Nat} (hK : K ≤ l.length / 512) (hs : ∀ q, q < K → stampIs (l.drop (512 * q)) e) (hend : K = l.length / 512 ∨ ¬ stampIs (l.drop (512 * K)) e) : streamN e (l.length / 512) l = strmP l K := by
  rw [stream_go e l _ rfl K hK hs]
  rcases hend with h | h
  · rw [h, Nat.sub_self]
    exact List.append_nil _
  · cases hk : l.length / 512 - K with
    | zero => exact List.append_nil _
    | succ k =>
      rw [streamN, if_neg (by rw [List.length_drop]; omega), if_neg (show ¬ (readE (l.drop (512 * K)) 0 8 = 0 ∧ readP (l.drop (512 * K)) 0 8 = e) from h)]
      exact List.append_nil _
theorem make_room (n : Nat) (hn : n ≤ 140737488351232) (w : World) : ∃ o, (Instr.makeSlice 22 (.int .i64 0) (.int .i64 (n : Int))).run Tryd.prog w = .ok (.slice (some ⟨w.heap.size, 0, none⟩) 0 n) (w.alloc o) ∧ OwnB (w.alloc o) w.heap.size (.slice (some ⟨w.heap.size, 0, none⟩) 0 n) [] := by
  obtain ⟨i, h1, h2, h3, h4⟩ := info_parts info_byte
  have hb2 : (i.bytes : Int) * (n : Int) ≤ 281474976710656 := by rw [h4]; omega
  have := run_make (P := Tryd.prog) w 22 5 i (.int .u8 0) Tryd.underlying22 h1 h2 .i64 .i64 0 n (by omega) (by omega) hb2 (by omega)
  refine ⟨_, by simpa using this, ?_⟩
  refine ⟨rfl, .inr ⟨w.heap.size, n, _, rfl, Nat.le_refl _, heap_alloc_new w _, Nat.zero_le _, by unfold maxLen; omega, ?_, ?_⟩⟩
  · rw [h3]
    simp [size_madeCells, Value.cells]
  · simp [btV]
theorem row_cell0 {w : World} {b : Nat} {v : Value} {t : TypeId} (h : w.heap[b]? = some (.cells #[v] t (0, 0))) : w.cell? ⟨b, 0, none⟩ = some v ∧ w.frozen? ⟨b, 0, none⟩ = false := by
  unfold World.cell? World.frozen?
  simp [h]
/-- Between two rounds: what has come, in a box. -/
structure StrR (w : World) (sb nb B : Nat) (l : List Int) (a : Option Addr) (n c : Nat) (i : Nat) (A : World) : Prop where
  ex : ∃ v, A.heap[B]? = some (.cells #[v] 22 (0, 0)) ∧ OwnB A w.heap.size v (strmP l i) ∧ v.ownBlock ≠ some B
  ok : OkC sb nb a n c 512 A
  below : Below w.heap.size w A
theorem StrR.keep {w : World} {sb nb B : Nat} {l : List Int} {a : Option Addr} {n c i m : Nat} {A C : World} (h : StrR w sb nb B l a n c i A) (hm : w.heap.size ≤ m) (ht : Turns TL m A C) : StrR w sb nb B l a n c i C := by
  obtain ⟨v, h1, h2, h3⟩ := h.ex
  refine ⟨⟨v, ht.block _ _ h1 (TL_cells _ _ _), ?_, h3⟩, ⟨ht.block _ _ h.ok.1 (TL_cells _ _ _), ht.block _ _ h.ok.2 (TL_cells _ _ _)⟩, h.below.trans (ht.below.mono hm)⟩
  refine h2.keep fun g hg => ?_
  rcases h2.2 with ⟨hv, _⟩ | ⟨g', cap, cur, hv, -, hc, _⟩
  · rw [hv] at hg; cases hg
  · rw [hv] at hg
    injection hg with hg
    subst hg
    rw [hc]
    exact ht.block _ _ hc (TL_cells _ _ _)
/-- A part appended: the append's run at the world that the region draws, and what is so behind the store. -/
theorem StrR.next {w : World} {sb nb B : Nat} {l : List Int} {n c i : Nat} {A : World} {g o : Nat} (h : StrR w sb nb B l (some ⟨g, o, none⟩) n c i A) (hin : InB A (some ⟨g, o, none⟩) l) (hi : 512 * (i + 1) ≤ l.length) (hl : l.length ≤ 140737488351232) (hw : w.heap.size ≤ B) (hsB : sb ≠ B ∧ nb ≠ B) :
    ∃ v v' w1, (∃ a3 n3 c3, v = .slice a3 n3 c3) ∧ (∃ a3 n3 c3, v' = .slice a3 n3 c3) ∧ A.heap[B]? = some (.cells #[v] 22 (0, 0)) ∧ (Builtin.append_ #[22, 22] 22 #[v, .slice (some ⟨g, o + (512 * i + 8), none⟩) 504 504]).run Tryd.prog A.drew = .ok v' w1 ∧ w1.heap[B]? = some (.cells #[v] 22 (0, 0)) ∧
      Keeps A (w1.setCell ⟨B, 0, none⟩ v') ∧ StrR w sb nb B l (some ⟨g, o, none⟩) n c (i + 1) (w1.setCell ⟨B, 0, none⟩ v') := by
  obtain ⟨v, h1, h2, hne⟩ := h.ex
  have hpl : (partL l i).length = 504 := by unfold partL; rw [List.length_take, List.length_drop]; omega
  have hsl := strmP_len l i (by omega)
  have hpi : InB A.drew (some ⟨g, o + (512 * i + 8), none⟩) (partL l i) := (adAt_in hin (512 * i + 8) 504).then_ (Below.refl _ A).drew
  have hB := (Array.getElem?_eq_some_iff.1 h1).1
  obtain ⟨ad, ead, hsrc⟩ := hpi.src (Below.refl _ _) (by rw [hpl]; decide)
  injection ead with ead
  subst ead
  obtain ⟨v', w1, hr, G⟩ := run_apB A.drew 22 w.heap.size v (strmP l i) h2.drew ⟨g, o + (512 * i + 8), none⟩ 504 504 (partL l i) hpl hsrc (by omega) (by show w.heap.size ≤ A.heap.size; exact h.below.size)
  have e1 : w1.heap[B]? = some (.cells #[v] 22 (0, 0)) := (G.grow.block B hB (fun e => hne e.symm)).trans h1
  have hb1 : Below w.heap.size A w1 := ((Below.refl w.heap.size A).drew).trans (G.below h2.drew (Below.refl w.heap.size A.drew) (Nat.le_refl _) (by show w.heap.size ≤ A.heap.size; exact h.below.size))
  have e2 : (w1.setCell ⟨B, 0, none⟩ v').heap[B]? = some (.cells #[v'] 22 (0, 0)) := by
    have := heap_setCell_same _ _ 0 _ _ v' e1
    simpa using this
  have old : ∀ (k : Nat) (cs : Array Value) (t : TypeId) (f : Nat × Nat), k ≠ B → A.heap[k]? = some (.cells cs t f) → v.ownBlock ≠ some k → (w1.setCell ⟨B, 0, none⟩ v').heap[k]? = some (.cells cs t f) := fun k cs t f hk e hn => by
    rw [Below.heap_setCell _ _ _ _ hk]
    exact (G.grow.block k (Array.getElem?_eq_some_iff.1 e).1 (fun e => hn e.symm)).trans e
  refine ⟨v, v', w1, (by obtain ⟨a3, c3, e3, -⟩ := h2.shape; exact ⟨a3, _, c3, e3⟩), (by obtain ⟨a3, c3, e3, -⟩ := G.own.shape; exact ⟨a3, _, c3, e3⟩), h1, hr, e1, ?_, ?_⟩
  · refine Keeps.trans ⟨G.grow.size, fun k ob e t => ?_⟩ (Keeps.setCell e1 v')
    refine (G.grow.block k (Array.getElem?_eq_some_iff.1 e).1 (fun ev => ?_)).trans e
    rcases h2.2 with ⟨hv, _⟩ | ⟨g', cap, cur, hv, -, hc, _⟩
    · rw [hv] at ev; cases ev
    · rw [hv] at ev
      replace ev : some k = some g' := ev
      injection ev with ev
      subst ev
      have e' : A.heap[k]? = some ob := e
      rw [hc] at e'
      injection e' with e'
      subst e'
      exact TL_cells _ _ _ t
  · have hns : ∀ (k : Nat) (cs : Array Value) (t : TypeId), t ≠ 5 → A.heap[k]? = some (.cells cs t (0, 0)) → v.ownBlock ≠ some k := fun k cs t ht e ev => by
      rcases h2.2 with ⟨hv, _⟩ | ⟨g', cap, cur, hv, -, hc, _⟩
      · rw [hv] at ev; cases ev
      · rw [hv] at ev
        injection ev with ev
        subst ev
        rw [hc] at e
        cases e
        exact ht rfl
    have hne' : v'.ownBlock ≠ some B := fun e => by
      rcases G.at_ with h4 | ⟨g', h4, h5⟩
      · exact hne (h4 ▸ e)
      · rw [h4] at e
        injection e with e
        have : A.heap.size ≤ g' := h5
        omega
    refine ⟨⟨v', e2, ?_, hne'⟩, ⟨old _ _ _ _ hsB.1 h.ok.1 (hns _ _ _ (by decide) h.ok.1), old _ _ _ _ hsB.2 h.ok.2 (hns _ _ _ (by decide) h.ok.2)⟩, ?_⟩
    · exact G.own.keep fun g hg => Below.heap_setCell _ _ _ _ (fun e => hne' (by rw [hg]; exact congrArg some e))
    · exact (h.below.trans hb1).setCell (p := ⟨B, 0, none⟩) hw _
def AxS (B : Nat) (la : Option Addr) (m i : Nat) (a' : Act) : Prop := ∃ x0 x1 x2 x3 x4 x5 x8 x9 x10 x11 x12 x13 x14 x15 x16 x17 x18 x19 x20 x21 x22 x23 x24 x25 x26 x27 x28 x29 x30 x31 x32 x33 x34 x35 : Value, a' = { tmps := #[x0, x1, x2, x3, x4, x5, .pointer (some ⟨B, 0, none⟩), .slice (adAt la (512 * i)) (min 512 (m - 512 * i)) (min 512 (m - 512 * i)), x8, x9, x10, x11, x12, x13, x14, x15, x16, x17, x18, x19, x20, x21, x22, x23, x24, x25, x26, x27, x28, x29, x30, x31, x32, x33, x34, x35], defers := [] }
/-- The loop's beginning. -/
theorem stream_start {w W1 : World} {ob : Obj} {la : Option Addr} {m c : Nat} {l : List Int} {k : Nat} (ho : OwnB (w.alloc ob) w.heap.size (.slice (some ⟨w.heap.size, 0, none⟩) 0 k) []) (hin : InB w la l)
    (e : W1 = (((w.alloc ob).alloc (.cells #[.slice (some ⟨w.heap.size, 0, none⟩) 0 k] 22)).alloc (.cells #[.slice la m c] 22)).alloc (.cells #[.int .i64 512] 3)) :
    W1.heap.size = w.heap.size + 4 ∧ StrR w (w.heap.size + 2) (w.heap.size + 3) (w.heap.size + 1) l la m c 0 W1 ∧ InB W1 la l := by
  have hbx := below1 (w.alloc ob) (.cells #[.slice (some ⟨w.heap.size, 0, none⟩) 0 k] 22)
  have hbA := below2 ((w.alloc ob).alloc (.cells #[.slice (some ⟨w.heap.size, 0, none⟩) 0 k] 22)) (.cells #[.slice la m c] 22) (.cells #[.int .i64 512] 3)
  have hb1 := below_then hbx hbA
  have hb := below_then (below1 w ob) hb1
  subst e
  refine ⟨by simp, ⟨⟨.slice (some ⟨w.heap.size, 0, none⟩) 0 k, ?_, ?_, ?_⟩, ⟨?_, ?_⟩, hb⟩, hin.then_ hb⟩
  · exact row_then (heap_alloc_at (w.alloc ob) _ (w.heap.size + 1) (by simp)) hbA
  · exact ho.then_ hb1
  · intro e
    injection e with e
    dsimp only at e
    omega
  · exact row_then (heap_alloc_at ((w.alloc ob).alloc (.cells #[.slice (some ⟨w.heap.size, 0, none⟩) 0 k] 22)) _ (w.heap.size + 2) (by simp)) (below1 _ _)
  · exact heap_alloc_at _ _ (w.heap.size + 3) (by simp)
set_option maxHeartbeats 8000000 in
theorem pstream_any (e : Int) (la : Option Addr) (n c : Nat) (l : List Int) (w : World) (he : okInt e) (hin : InB w la l) (hB : isB l) (hn : l.length = n) (hc : n ≤ c) (hl : n ≤ 140737488351232) (hnil : la = none → c = 0) :
    Calls Tryd.prog 41 #[.slice la n c, .int .i64 e] w fun en w' => ∃ v, en = .returned v ∧ OwnB w' w.heap.size v (streamN e (l.length / 512) l) ∧ Below w.heap.size w w' := by
  have HA := Lib.hid (And.intro hin (And.intro hB hn))
  have HPl := Lib.hid (show (1 ≤ n → ∀ ad, la = some ad → ad.spot = none) ∧ (la = none → c = 0) from ⟨fun h => by
    obtain ⟨b, o, x, e, -⟩ := hin.one (i := 0) (by omega)
    subst e
    intro ad e
    injection e with e
    subst e
    rfl, hnil⟩)
  refine (callsIn_wide (n := 8)).1 ?_
  refine callsIn_of_wp_marks Tryd.func41 rfl trivial ?_ rfl
  simp only [Tryd.ntmps41, List.size_toArray, List.length_cons, List.length_nil, Nat.reduceAdd, Nat.reduceSub, Array.replicate_succ, Array.replicate_zero, List.push_toArray, List.append_toArray, List.nil_append, List.cons_append]
  have hfL : Fence.wide.fn 56 := trivial
  have hfC : Fence.wide.fn 50 := trivial
  clear hin hB hnil
  gi_wp2
  gi_loopw [5] (fun p wr => ∃ j m : Nat, p = .int .i64 (m : Int) ∧ wr = w ∧ m ≤ n ∧ Hid (m = 512 * j ∧ ∀ q, q < j → stampIs (l.drop (512 * q)) e)) (fun p _ => n + 512 - (intOf p).toNat)
  case atStart => exact ⟨0, 0, rfl, rfl, by omega, Lib.hid ⟨rfl, fun q hq => by omega⟩⟩
  case round =>
    obtain ⟨j, m, rfl, rfl, hm, HS⟩ := hrel
    have HT := Lib.hid (fun (h5 : 1 ≤ n) => show ∃ a', (∀ w, (Instr.slice 22 (.slice la n c) (some (.int .i64 (m : Int))) none none).run Tryd.prog w = .ok (.slice a' (n - m) (c - m)) w) ∧ Calls Tryd.prog 56 #[.slice a' (n - m) (c - m), .int .i64 e] wr fun en w' => en = .returned (.bool (stampD (l.drop m) e)) ∧ wr = w' from by
      obtain ⟨a', hs0, hia, -, -⟩ := run_slL la n c m (m : Int) rfl hm hc HPl.out.2 (HPl.out.1 h5)
      exact ⟨a', hs0, pisStamped_any e a' (n - m) (c - m) (l.drop m) wr he (hia wr l HA.out.1 HA.out.2.2) (HA.out.2.1.drop _) (by rw [List.length_drop, HA.out.2.2]) (by omega) (by omega)⟩)
    have hstop : (512 ≤ n - m ∧ stampD (l.drop m) e = true) ∨ (n - m < 512) ∨ (512 ≤ n - m ∧ stampD (l.drop m) e = false) := by
      cases stampD (l.drop m) e <;> simp <;> omega
    rcases hstop with ⟨q, hs⟩ | hstop
    · obtain ⟨a', hs0, HT⟩ := HT.out (by omega)
      have HT := Lib.hid HT
      rw [hs] at HT
      have HS2 := Lib.hid (show m + 512 = 512 * (j + 1) ∧ ∀ q, q < j + 1 → stampIs (l.drop (512 * q)) e from ⟨by have := HS.out.1; omega, fun q hq => by
        by_cases hqj : q < j
        · exact HS.out.2 q hqj
        · rw [show q = j by omega, ← HS.out.1]
          exact (stampD_is _ _).1 hs⟩)
      clear hs
      have q' : (512 : Int) ≤ (n : Int) - (m : Int) := by omega
      gi_wp2_with (gi_at_call 56; refine (callsIn_wide.2 HT.out).mono ?_; rintro en w1 ⟨rfl, rfl⟩)
      go_roundw
      case rel => exact ⟨j + 1, m + 512, by go_num, trivial, by omega, HS2⟩
      case measure => simp [intOf]; omega
    · have HSt := Lib.hid (show streamN e (l.length / 512) l = strmP l j from stream_at e l (by rw [HA.out.2.2]; have := HS.out.1; omega) HS.out.2 (by
        rw [HA.out.2.2]
        have := HS.out.1
        rcases hstop with q | ⟨q, hs⟩
        · exact .inl (by omega)
        · refine .inr fun h => ?_
          rw [← this] at h
          rw [(stampD_is _ _).2 h] at hs
          cases hs))
      have e2 : (m : Int).tdiv 512 = (j : Int) := by
        rw [Int.tdiv_eq_ediv_of_nonneg (by omega)]
        have := HS.out.1
        omega
      have hj5 : j * 512 ≤ n := by have := HS.out.1; omega
      obtain ⟨ob, hmk, hob⟩ := make_room (504 * j) (by omega) wr
      rw [show ((504 * j : Nat) : Int) = (j : Int) * 504 by omega] at hmk
      have HOB := Lib.hid hob
      clear hob
      rcases hstop with q | ⟨q, hs⟩
      · have q' : ¬ ((512 : Int) ≤ (n : Int) - (m : Int)) := by omega
        clear HT
        gi_wp2_with (first
          | fail
          | (gi_at_call 50; refine (callsIn_wide.2 (chunk_any la m c 512 (by omega) _)).mono ?_; rintro en W1 ⟨rfl, eW1⟩; have EW1 := Lib.hid eW1; clear eW1))
        obtain ⟨h4, h5, h6⟩ := stream_start HOB.out HA.out.1 (la := la) (m := m) (c := c) (l := l) EW1.out
        have HI := Lib.hid h6
        have HST := Lib.hid (And.intro h4 h5)
        clear EW1 h4 h5 h6
        refine wp_each (by omega) (gf := 71) (lb := _) rfl (enters_of Tryd.func71 (by kernel_rfl) rfl) (chunk_each (wr.heap.size + 2) (wr.heap.size + 3) la m c 512 (by omega) (by omega) (by omega) (by omega) (fun h => HPl.out.1 (by omega)) HPl.out.2) (fun _ => rfl)
          (StrR wr (wr.heap.size + 2) (wr.heap.size + 3) (wr.heap.size + 1) l la m c) (fun _ _ => False) (fun i A h => h.ok) (fun i A C h ht => h.keep (by rw [HST.out.1]; omega) ht) (fun _ _ _ h _ => h) HST.out.2
          (fun i a' _ => AxS (wr.heap.size + 1) la m i a') (fun _ _ _ _ h _ => h) ?assign ?body ?done ?stop
        case assign =>
          intro l1 i A K hz hI hK
          unfold encC
          gi_wp2
          exact hK _ _ (Turns.refl _ _ _) (Keeps.refl _) ⟨_, _, _, _, _, _, _, _, _, _, _, _, _, _, _, _, _, _, _, _, _, _, _, _, _, _, _, _, _, _, _, _, _, _, rfl⟩
        case stop =>
          intro D cc A hD hI hK
          exact hI.elim
        case body =>
          rintro l1 i a' A hz hI ⟨x0, x1, x2, x3, x4, x5, x8, x9, x10, x11, x12, x13, x14, x15, x16, x17, x18, x19, x20, x21, x22, x23, x24, x25, x26, x27, x28, x29, x30, x31, x32, x33, x34, x35, rfl⟩ hiM
          have him : 512 * i < m := (cuts_lt (by omega)).1 hiM
          have hij : 512 * (i + 1) ≤ m := by have := HS.out.1; omega
          obtain ⟨g, o, y0, rfl, -, -⟩ := HA.out.1.one (i := 0) (by rw [HA.out.2.2]; omega)
          obtain ⟨v, v', w1, ⟨a3, n3, c3, rfl⟩, ⟨a4, n4, c4, rfl⟩, k1, hap, k2, k3, k4⟩ := hI.next (hin := HA.out.1.then_ hI.below) (by rw [HA.out.2.2]; omega) (by rw [HA.out.2.2]; exact hl) (by omega) ⟨by omega, by omega⟩
          have HK := Lib.hid (And.intro k3 k4)
          rw [show min 512 (m - 512 * i) = 512 by omega]
          obtain ⟨p, hp⟩ : ∃ p, p = o + 512 * i := ⟨_, rfl⟩
          rw [← Nat.add_assoc, ← hp] at hap
          have e3 : adAt (some ⟨g, o, none⟩) (512 * i) = some ⟨g, p, none⟩ := by rw [hp]; rfl
          rw [e3]
          have q1 := row_cell0 k1
          have q2 := row_cell0 k2
          obtain ⟨q1, q1'⟩ := q1
          obtain ⟨q2, q2'⟩ := q2
          clear hI k1 k2 k3 k4 hp e3 e2 hmk hm hj5 hfL hfC hij him
          gi_wp2
          refine wpIn_region_any (by kernel_rfl) ?_
          change wpAnyIn _ _ _ _ _ _ _ _ _ A.drew
          refine wpAnyIn_ready (rs := [0, 1]) (by kernel_rfl) (by simp) ?_
          refine AllReadyIn.cons rfl (fun K hK => ?oA) (AllReadyIn.cons rfl (fun K hK => ?oB) AllReadyIn.nil)
          case' oA =>
            go_simp
            refine hK _ _ ?_
            clear hK K
            refine wpAnyIn_ready (rs := [1]) (by kernel_rfl) (by simp) ?_
            refine AllReadyIn.cons rfl (fun K hK => ?_) AllReadyIn.nil
            go_simp
            refine hK _ _ ?_
            clear hK K
            refine wpAnyIn_ready (rs := [2]) (by kernel_rfl) (by simp) ?_
            refine AllReadyIn.cons rfl (fun K hK => ?_) AllReadyIn.nil
            go_simp
            refine hK _ _ ?_
            clear hK K
            refine wpAnyIn_ready (rs := [3]) (by kernel_rfl) (by simp) ?_
            refine AllReadyIn.cons rfl (fun K hK => ?_) AllReadyIn.nil
            refine stepIn_apRun rfl (.tmp 31) (.tmp 33) 22 rfl _ _ _ _ rfl rfl hap ?_
            refine hK _ _ ?_
            clear hK K
            refine wpAnyIn_ready (rs := [4]) (by kernel_rfl) (by simp) ?_
            refine AllReadyIn.cons rfl (fun K hK => ?_) AllReadyIn.nil
            go_simp
            refine hK _ _ ?_
            clear hK K
            refine wpAnyIn_done (by kernel_rfl) ?_ _
            exact HK.out
          case' oB =>
            go_simp
            refine hK _ _ ?_
            clear hK K
            refine wpAnyIn_ready (rs := [0, 2]) (by kernel_rfl) (by simp) ?_
            refine AllReadyIn.cons rfl (fun K hK => ?oC) (AllReadyIn.cons rfl (fun K hK => ?oD) AllReadyIn.nil)
            case' oC =>
              go_simp
              refine hK _ _ ?_
              clear hK K
              refine wpAnyIn_ready (rs := [2]) (by kernel_rfl) (by simp) ?_
              refine AllReadyIn.cons rfl (fun K hK => ?_) AllReadyIn.nil
              go_simp
              refine hK _ _ ?_
              clear hK K
              refine wpAnyIn_ready (rs := [3]) (by kernel_rfl) (by simp) ?_
              refine AllReadyIn.cons rfl (fun K hK => ?_) AllReadyIn.nil
              refine stepIn_apRun rfl (.tmp 31) (.tmp 33) 22 rfl _ _ _ _ rfl rfl hap ?_
              refine hK _ _ ?_
              clear hK K
              refine wpAnyIn_ready (rs := [4]) (by kernel_rfl) (by simp) ?_
              refine AllReadyIn.cons rfl (fun K hK => ?_) AllReadyIn.nil
              go_simp
              refine hK _ _ ?_
              clear hK K
              refine wpAnyIn_done (by kernel_rfl) ?_ _
              exact HK.out
            case' oD =>
              go_simp
              refine hK _ _ ?_
              clear hK K
              refine wpAnyIn_ready (rs := [0]) (by kernel_rfl) (by simp) ?_
              refine AllReadyIn.cons rfl (fun K hK => ?_) AllReadyIn.nil
              go_simp
              refine hK _ _ ?_
              clear hK K
              refine wpAnyIn_ready (rs := [3]) (by kernel_rfl) (by simp) ?_
              refine AllReadyIn.cons rfl (fun K hK => ?_) AllReadyIn.nil
              refine stepIn_apRun rfl (.tmp 31) (.tmp 33) 22 rfl _ _ _ _ rfl rfl hap ?_
              refine hK _ _ ?_
              clear hK K
              refine wpAnyIn_ready (rs := [4]) (by kernel_rfl) (by simp) ?_
              refine AllReadyIn.cons rfl (fun K hK => ?_) AllReadyIn.nil
              go_simp
              refine hK _ _ ?_
              clear hK K
              refine wpAnyIn_done (by kernel_rfl) ?_ _
              exact HK.out
        case done =>
          intro D A hD hI hK
          obtain ⟨v, k1, k2, k3⟩ := hI.ex
          have hji : cuts 512 m = j := by rw [HS.out.1]; unfold cuts; omega
          rw [hji] at k2
          have HE := Lib.hid (show OwnB (A.putObj D (.deferred none)) wr.heap.size v (streamN e (l.length / 512) l) ∧ Below wr.heap.size wr (A.putObj D (.deferred none)) from by
            have hb := hI.below
            rw [HSt.out]
            refine ⟨k2.keep fun g hg => World.putObj_heap_other fun e => ?_, hb.trans ⟨rfl, rfl, rfl, by simp, fun k hk => World.putObj_heap_other (by have := HST.out.1; omega)⟩⟩
            subst e
            rcases k2.2 with ⟨hv, _⟩ | ⟨g', cap, cur, hv, -, hc, _⟩
            · rw [hv] at hg; cases hg
            · rw [hv] at hg
              injection hg with hg
              subst hg
              rw [hK] at hc
              cases hc)
          obtain ⟨q1, q1'⟩ := row_cell0 k1
          clear hI k1 k2 k3 hji
          gi_wp2
          refine ⟨by simp, .inl ⟨_, _, rfl, run_takeDeferred hK, ?_⟩⟩
          refine ⟨v, ?_, v, rfl, HE.out.1, HE.out.2⟩
          exact (results_tmp (fn := Tryd.f41) (t := 4) rfl _ _ _)
      · have q' : (512 : Int) ≤ (n : Int) - (m : Int) := by omega
        obtain ⟨a', hs0, HT⟩ := HT.out (by omega)
        have HT := Lib.hid HT
        rw [hs] at HT
        clear hs
        gi_wp2_with (first
          | (gi_at_call 56; refine (callsIn_wide.2 HT.out).mono ?_; rintro en w1 ⟨rfl, rfl⟩)
          | (gi_at_call 50; refine (callsIn_wide.2 (chunk_any la m c 512 (by omega) _)).mono ?_; rintro en W1 ⟨rfl, eW1⟩; have EW1 := Lib.hid eW1; clear eW1))
        obtain ⟨h4, h5, h6⟩ := stream_start HOB.out HA.out.1 (la := la) (m := m) (c := c) (l := l) EW1.out
        have HI := Lib.hid h6
        have HST := Lib.hid (And.intro h4 h5)
        clear EW1 h4 h5 h6
        refine wp_each (by omega) (gf := 71) (lb := _) rfl (enters_of Tryd.func71 (by kernel_rfl) rfl) (chunk_each (wr.heap.size + 2) (wr.heap.size + 3) la m c 512 (by omega) (by omega) (by omega) (by omega) (fun h => HPl.out.1 (by omega)) HPl.out.2) (fun _ => rfl)
          (StrR wr (wr.heap.size + 2) (wr.heap.size + 3) (wr.heap.size + 1) l la m c) (fun _ _ => False) (fun i A h => h.ok) (fun i A C h ht => h.keep (by rw [HST.out.1]; omega) ht) (fun _ _ _ h _ => h) HST.out.2
          (fun i a' _ => AxS (wr.heap.size + 1) la m i a') (fun _ _ _ _ h _ => h) ?assign2 ?body2 ?done2 ?stop2
        case assign2 =>
          intro l1 i A K hz hI hK
          unfold encC
          gi_wp2
          exact hK _ _ (Turns.refl _ _ _) (Keeps.refl _) ⟨_, _, _, _, _, _, _, _, _, _, _, _, _, _, _, _, _, _, _, _, _, _, _, _, _, _, _, _, _, _, _, _, _, _, rfl⟩
        case stop2 =>
          intro D cc A hD hI hK
          exact hI.elim
        case body2 =>
          rintro l1 i a' A hz hI ⟨x0, x1, x2, x3, x4, x5, x8, x9, x10, x11, x12, x13, x14, x15, x16, x17, x18, x19, x20, x21, x22, x23, x24, x25, x26, x27, x28, x29, x30, x31, x32, x33, x34, x35, rfl⟩ hiM
          have him : 512 * i < m := (cuts_lt (by omega)).1 hiM
          have hij : 512 * (i + 1) ≤ m := by have := HS.out.1; omega
          obtain ⟨g, o, y0, rfl, -, -⟩ := HA.out.1.one (i := 0) (by rw [HA.out.2.2]; omega)
          obtain ⟨v, v', w1, ⟨a3, n3, c3, rfl⟩, ⟨a4, n4, c4, rfl⟩, k1, hap, k2, k3, k4⟩ := hI.next (hin := HA.out.1.then_ hI.below) (by rw [HA.out.2.2]; omega) (by rw [HA.out.2.2]; exact hl) (by omega) ⟨by omega, by omega⟩
          have HK := Lib.hid (And.intro k3 k4)
          rw [show min 512 (m - 512 * i) = 512 by omega]
          obtain ⟨p, hp⟩ : ∃ p, p = o + 512 * i := ⟨_, rfl⟩
          rw [← Nat.add_assoc, ← hp] at hap
          have e3 : adAt (some ⟨g, o, none⟩) (512 * i) = some ⟨g, p, none⟩ := by rw [hp]; rfl
          rw [e3]
          have q1 := row_cell0 k1
          have q2 := row_cell0 k2
          obtain ⟨q1, q1'⟩ := q1
          obtain ⟨q2, q2'⟩ := q2
          clear hI k1 k2 k3 k4 hp e3 hs0 e2 hmk hm hj5 hfL hfC hij him
          gi_wp2
          refine wpIn_region_any (by kernel_rfl) ?_
          change wpAnyIn _ _ _ _ _ _ _ _ _ A.drew
          refine wpAnyIn_ready (rs := [0, 1]) (by kernel_rfl) (by simp) ?_
          refine AllReadyIn.cons rfl (fun K hK => ?pA) (AllReadyIn.cons rfl (fun K hK => ?pB) AllReadyIn.nil)
          case' pA =>
            go_simp
            refine hK _ _ ?_
            clear hK K
            refine wpAnyIn_ready (rs := [1]) (by kernel_rfl) (by simp) ?_
            refine AllReadyIn.cons rfl (fun K hK => ?_) AllReadyIn.nil
            go_simp
            refine hK _ _ ?_
            clear hK K
            refine wpAnyIn_ready (rs := [2]) (by kernel_rfl) (by simp) ?_
            refine AllReadyIn.cons rfl (fun K hK => ?_) AllReadyIn.nil
            go_simp
            refine hK _ _ ?_
            clear hK K
            refine wpAnyIn_ready (rs := [3]) (by kernel_rfl) (by simp) ?_
            refine AllReadyIn.cons rfl (fun K hK => ?_) AllReadyIn.nil
            refine stepIn_apRun rfl (.tmp 31) (.tmp 33) 22 rfl _ _ _ _ rfl rfl hap ?_
            refine hK _ _ ?_
            clear hK K
            refine wpAnyIn_ready (rs := [4]) (by kernel_rfl) (by simp) ?_
            refine AllReadyIn.cons rfl (fun K hK => ?_) AllReadyIn.nil
            go_simp
            refine hK _ _ ?_
            clear hK K
            refine wpAnyIn_done (by kernel_rfl) ?_ _
            exact HK.out
          case' pB =>
            go_simp
            refine hK _ _ ?_
            clear hK K
            refine wpAnyIn_ready (rs := [0, 2]) (by kernel_rfl) (by simp) ?_
            refine AllReadyIn.cons rfl (fun K hK => ?pC) (AllReadyIn.cons rfl (fun K hK => ?pD) AllReadyIn.nil)
            case' pC =>
              go_simp
              refine hK _ _ ?_
              clear hK K
              refine wpAnyIn_ready (rs := [2]) (by kernel_rfl) (by simp) ?_
              refine AllReadyIn.cons rfl (fun K hK => ?_) AllReadyIn.nil
              go_simp
              refine hK _ _ ?_
              clear hK K
              refine wpAnyIn_ready (rs := [3]) (by kernel_rfl) (by simp) ?_
              refine AllReadyIn.cons rfl (fun K hK => ?_) AllReadyIn.nil
              refine stepIn_apRun rfl (.tmp 31) (.tmp 33) 22 rfl _ _ _ _ rfl rfl hap ?_
              refine hK _ _ ?_
              clear hK K
              refine wpAnyIn_ready (rs := [4]) (by kernel_rfl) (by simp) ?_
              refine AllReadyIn.cons rfl (fun K hK => ?_) AllReadyIn.nil
              go_simp
              refine hK _ _ ?_
              clear hK K
              refine wpAnyIn_done (by kernel_rfl) ?_ _
              exact HK.out
            case' pD =>
              go_simp
              refine hK _ _ ?_
              clear hK K
              refine wpAnyIn_ready (rs := [0]) (by kernel_rfl) (by simp) ?_
              refine AllReadyIn.cons rfl (fun K hK => ?_) AllReadyIn.nil
              go_simp
              refine hK _ _ ?_
              clear hK K
              refine wpAnyIn_ready (rs := [3]) (by kernel_rfl) (by simp) ?_
              refine AllReadyIn.cons rfl (fun K hK => ?_) AllReadyIn.nil
              refine stepIn_apRun rfl (.tmp 31) (.tmp 33) 22 rfl _ _ _ _ rfl rfl hap ?_
              refine hK _ _ ?_
              clear hK K
              refine wpAnyIn_ready (rs := [4]) (by kernel_rfl) (by simp) ?_
              refine AllReadyIn.cons rfl (fun K hK => ?_) AllReadyIn.nil
              go_simp
              refine hK _ _ ?_
              clear hK K
              refine wpAnyIn_done (by kernel_rfl) ?_ _
              exact HK.out
        case done2 =>
          intro D A hD hI hK
          obtain ⟨v, k1, k2, k3⟩ := hI.ex
          have hji : cuts 512 m = j := by rw [HS.out.1]; unfold cuts; omega
          rw [hji] at k2
          have HE := Lib.hid (show OwnB (A.putObj D (.deferred none)) wr.heap.size v (streamN e (l.length / 512) l) ∧ Below wr.heap.size wr (A.putObj D (.deferred none)) from by
            have hb := hI.below
            rw [HSt.out]
            refine ⟨k2.keep fun g hg => World.putObj_heap_other fun e => ?_, hb.trans ⟨rfl, rfl, rfl, by simp, fun k hk => World.putObj_heap_other (by have := HST.out.1; omega)⟩⟩
            subst e
            rcases k2.2 with ⟨hv, _⟩ | ⟨g', cap, cur, hv, -, hc, _⟩
            · rw [hv] at hg; cases hg
            · rw [hv] at hg
              injection hg with hg
              subst hg
              rw [hK] at hc
              cases hc)
          obtain ⟨q1, q1'⟩ := row_cell0 k1
          clear hI k1 k2 k3 hji
          gi_wp2
          refine ⟨by simp, .inl ⟨_, _, rfl, run_takeDeferred hK, ?_⟩⟩
          refine ⟨v, ?_, v, rfl, HE.out.1, HE.out.2⟩
          exact (results_tmp (fn := Tryd.f41) (t := 4) rfl _ _ _)
end Go.Proofs.YtophhnolnlbecaaDoor
