/- The contract of keyenc's Read: no statement is proved here. -/
import Derived.Test.YtdlgngnibbaamaaDoorKRRow
namespace Go.Proofs.YtdlgngnibbaamaaDoor
open Go.RowKit
set_option maxRecDepth 100000

/-- What Read says. -/
def RdRel (bs : List Int) (d : List Bool) (l : List V) (code place : Int) : Prop :=
  (¬ (1 ≤ d.length ∧ d.length ≤ 4) ∧ l = [] ∧ code = 1 ∧ place = -1) ∨ ((1 ≤ d.length ∧ d.length ≤ 4) ∧ 1000 < bs.length ∧ l = [] ∧ code = 30 ∧ place = -1) ∨
  ((1 ≤ d.length ∧ d.length ≤ 4) ∧ ¬ 1000 < bs.length ∧ RowRel bs d l true ∧ code = 0 ∧ place = 0) ∨ ((1 ≤ d.length ∧ d.length ≤ 4) ∧ ¬ 1000 < bs.length ∧ RowRel bs d [] false ∧ l = [] ∧ code = 31 ∧ place = -1)
def ReadTo (bs : List Int) (d : List Bool) (w : World) (e : Ending) (w' : World) : Prop := ∃ a c ts code place, e = .returned (.tuple #[.slice a ts.length c, .agg #[.int .i64 code, .int .i64 place]]) ∧ (holdL a c ts).Own w' w.heap.size ∧ Below w.heap.size w w' ∧ RdRel bs d (ts.map T.val) code place
theorem RowRel.none {bs : List Int} {d : List Bool} {l : List V} (h : RowRel bs d l false) : RowRel bs d [] false := ⟨fun h => (by cases h), fun l' h1 h2 h3 => (by have := (h.2 l' h1 h2 h3).1; cases this)⟩
theorem puttwo {w : World} {g : Nat} {t : TypeId} {a0 a1 : Value} (h : w.heap[g]? = some (.cells #[a0, a1] t (0, 0))) (b0 b1 : Value) : ((w.setCell ⟨g, 0, none⟩ b0).setCell ⟨g, 1, none⟩ b1).heap[g]? = some (.cells #[b0, b1] t (0, 0)) := by
  have h0 := heap_setCell_same _ g 0 _ _ b0 h
  have h1 := heap_setCell_same _ g 1 _ _ b1 h0
  simpa using h1
theorem below_put2 {w wr : World} (h : Below w.heap.size w wr) (b0 b1 : Value) : Below w.heap.size w ((wr.setCell ⟨w.heap.size, 0, none⟩ b0).setCell ⟨w.heap.size, 1, none⟩ b1) := (h.setCell (by simp) b0).setCell (by simp) b1

set_option maxHeartbeats 4000000 in
theorem read_any (ba : Option Addr) (bc : Nat) (bs : List Int) (lb : Option Addr) (cb : Nat) (d : List Bool) (w : World) (ha : InB w ba bs) (hf : InF w lb d) (hb : isB bs) (hl : bs.length ≤ 9223372036854775807) (hd : d.length ≤ 9223372036854775807) (hT : Tabs w) :
    Calls Tryd.prog 32 #[.slice ba bs.length bc, .slice lb d.length cb] w (ReadTo bs d w) := by
  have HA := Lib.hid (And.intro ha (And.intro hf (And.intro hb hT)))
  clear ha hf hb hT
  by_cases h1 : 1 ≤ d.length ∧ d.length ≤ 4
  · have hm := decide_eq_true h1
    by_cases h2 : 1000 < bs.length
    · go_enter Tryd.func32, Tryd.ntmps32
      go_wp2_with (first | (go_at_call 48; refine (mayBeRow_any d.length hd _).mono ?_; rw [hm]; rintro e w1 ⟨rfl, rfl⟩))
      refine bodyPost_ret (v := .tuple #[.slice none 0 0, .agg #[.int .i64 30, .int .i64 (-1)]]) (by simp [results, Tryd.results32, go_sem]) rfl ?_
      exact ⟨none, 0, [], 30, -1, rfl, holdL_start _ _, below1 _ _, .inr (.inl ⟨h1, h2, rfl, rfl, rfl⟩)⟩
    · have HR := Lib.hid (readRow_any ba bc bs lb cb d (w.alloc (.cells #[.int .i64 0, .int .i64 0] 36)) (HA.out.1.then_ (below1 _ _)) (HA.out.2.1.then_ (below1 _ _)) HA.out.2.2.1 (by omega) h1.2 (HA.out.2.2.2.then_ (below1 _ _)))
      go_enter Tryd.func32, Tryd.ntmps32
      go_wp2_with (first | (go_at_call 48; refine (mayBeRow_any d.length hd _).mono ?_; rw [hm]; rintro e w1 ⟨rfl, rfl⟩) | (go_at_call 52; refine HR.out.mono ?_; rintro e w2 ⟨a, c, ts, ok, rfl, hy, hb2, hr⟩; have z2 := row_then (heap_alloc_new w (.cells #[.int .i64 0, .int .i64 0] 36)) hb2; have c2 := row_cells z2; have f2 := (fun o => frozen_of_row _ _ o _ _ z2); have S2 := Lib.hid (And.intro hy (And.intro (below_then (below1 w (.cells #[.int .i64 0, .int .i64 0] 36)) hb2) (And.intro hr z2))); clear hy hb2 hr z2; rcases ok with _ | _))
      · have cp := row_cells (puttwo S2.out.2.2.2 (.int .i64 31) (.int .i64 (-1)))
        refine bodyPost_ret (v := .tuple #[.slice none 0 0, .agg #[.int .i64 31, .int .i64 (-1)]]) (by simp [results, Tryd.results32, go_sem, cp]) rfl ?_
        exact ⟨none, 0, [], 31, -1, rfl, holdL_start _ _, below_put2 S2.out.2.1 _ _, .inr (.inr (.inr ⟨h1, h2, S2.out.2.2.1.none, rfl, rfl, rfl⟩))⟩
      · have cp := row_cells (puttwo S2.out.2.2.2 (.int .i64 0) (.int .i64 0))
        refine bodyPost_ret (v := .tuple #[.slice a ts.length c, .agg #[.int .i64 0, .int .i64 0]]) (by simp [results, Tryd.results32, go_sem, cp]) rfl ?_
        refine ⟨a, c, ts, 0, 0, rfl, ?_, below_put2 S2.out.2.1 _ _, .inr (.inr (.inl ⟨h1, h2, S2.out.2.2.1, rfl, rfl⟩))⟩
        have h := S2.out.1
        rw [World.size_alloc] at h
        exact h.keep (((Only.refl [w.heap.size] w2).setCell (p := ⟨w.heap.size, 0, none⟩) (.inl (by simp)) _).setCell (p := ⟨w.heap.size, 1, none⟩) (.inl (by simp)) _) (by simp) (by omega)
  · have hm := decide_eq_false h1
    go_enter Tryd.func32, Tryd.ntmps32
    go_wp2_with (first | (go_at_call 48; refine (mayBeRow_any d.length hd _).mono ?_; rw [hm]; rintro e w1 ⟨rfl, rfl⟩))
    refine bodyPost_ret (v := .tuple #[.slice none 0 0, .agg #[.int .i64 1, .int .i64 (-1)]]) (by simp [results, Tryd.results32, go_sem]) rfl ?_
    exact ⟨none, 0, [], 1, -1, rfl, holdL_start _ _, below1 _ _, .inl ⟨h1, rfl, rfl, rfl⟩⟩
end Go.Proofs.YtdlgngnibbaamaaDoor
