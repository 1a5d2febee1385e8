/- The program's heap as it lies in a space's box: two exchanged. No statement is proved here. -/
import Derived.Test.YteoekfmjlmpmgaaHHp
import Derived.Test.YteoekfmjlmpmgaaYZ
import Derived.BigRegion
namespace Go.Proofs.Yteoekfmjlmpmgaa
open Go.RowKit
set_option maxRecDepth 100000

/-- A space's box at a, whose heap is that row. -/
structure HeapAt (w : World) (B a : Nat) (vs vf vw : Value) (H : List Int) : Prop where
  box : w.heap[a]? = some (.cells #[vs, vf, vw] 58)
  own : OwnI w B vf H
  off : vf.ownBlock ≠ some a
  low : B ≤ a
theorem HeapAt.drew {w : World} {B a : Nat} {vs vf vw : Value} {H : List Int} (h : HeapAt w B a vs vf vw H) : HeapAt w.drew B a vs vf vw H := ⟨h.box, h.own, h.off, h.low⟩
theorem HeapAt.drewN {w : World} {B a : Nat} {vs vf vw : Value} {H : List Int} (h : HeapAt w B a vs vf vw H) : ∀ q, HeapAt (w.drewN q) B a vs vf vw H
  | 0 => h
  | q + 1 => HeapAt.drew (HeapAt.drewN h q)
theorem Only.drewN {S : List Nat} {a b : World} (h : Only S a b) : ∀ q, Only S a (b.drewN q)
  | 0 => h
  | q + 1 => Only.drew (Only.drewN h q)
theorem results_void {P : Program} {fn : Func} (h : fn.results = #[]) (tmps : Array Value) (w : World) : (results fn tmps).run P w = .ok (.tuple #[]) w := by simp [results, h]
theorem set_heap {w : World} {g i : Nat} {cs : Array Value} {t : TypeId} (h : w.heap[g]? = some (.cells cs t)) (u : Value) : (w.setCell ⟨g, i, none⟩ u).heap[g]? = some (.cells (cs.setIfInBounds i u) t) := by
  rw [setCell_eq_setRow w g i cs t (0, 0) u h]
  exact setRow_heap _ _ _ _ _ _ h
theorem set_off (w : World) {g i b : Nat} (u : Value) (h : b ≠ g) : (w.setCell ⟨g, i, none⟩ u).heap[b]? = w.heap[b]? := Below.heap_setCell w ⟨g, i, none⟩ u b h
theorem box_frozen {w : World} {g : Nat} {cs : Array Value} {t : TypeId} (h : w.heap[g]? = some (.cells cs t)) (o : Nat) : w.frozen? ⟨g, o, none⟩ = false := by
  simp [World.frozen?, h]
/-- The heap's row has grown, or was cut, and is put into the box. -/
theorem HeapAt.put {w w1 : World} {B a : Nat} {vs vf vw vf' : Value} {H H' : List Int} (h : HeapAt w B a vs vf vw H) (hg : GrewI B w w1 vf vf' H') :
    HeapAt (w1.setCell ⟨a, 1, none⟩ vf') B a vs vf' vw H' ∧ Only (a :: vf.ownBlock.toList) w (w1.setCell ⟨a, 1, none⟩ vf') ∧ w1.heap[a]? = some (.cells #[vs, vf, vw] 58) := by
  have hb1 := hg.row h.box (fun b hb e => h.off (by rw [hb, e]))
  have hoff : vf'.ownBlock ≠ some a := fun e => hg.off (lt_of_block h.box) (fun b hb e' => h.off (by rw [hb, e'])) a e rfl
  refine ⟨⟨set_heap hb1 vf', hg.own.keep fun b hb => set_off w1 _ (fun e => hoff (by rw [hb, e])), hoff, h.low⟩, ?_, hb1⟩
  exact ((only_grow hg.grow).mono fun k hk => .inl (List.mem_cons_of_mem _ hk)).setCell (p := ⟨a, 1, none⟩) (.inl (List.mem_cons_self ..)) _
set_option maxHeartbeats 4000000 in
theorem swap_any (B a g c n : Nat) (vs vw : Value) (H : List Int) (i j : Nat) (w : World) (hh : HeapAt w B a vs (.slice (some ⟨g, 0, none⟩) n c) vw H) (hn : H.length = n) (hi : i < n) (hj : j < n) (hm : n ≤ 1000000) :
    Calls Try.prog 35 #[.pointer (some ⟨a, 1, none⟩), .int .i64 i, .int .i64 j] w fun e w' => e = .returned (.tuple #[]) ∧ HeapAt w' B a vs (.slice (some ⟨g, 0, none⟩) n c) vw (swapL H i j) ∧ Only [g] w w' := by
  obtain ⟨hbox, hown, hoff, hlow⟩ := hh
  have hga : ¬ g = a := fun e => hoff (by rw [e]; rfl)
  have hag : ¬ a = g := fun e => hga e.symm
  have hx := get_gI (H := H) (i := i) (by omega)
  have hy := get_gI (H := H) (i := j) (by omega)
  have HE : Hid (HeapAt ((w.setCell ⟨g, i, none⟩ (.int .i64 (gI H j))).setCell ⟨g, j, none⟩ (.int .i64 (gI H i))) B a vs (.slice (some ⟨g, 0, none⟩) n c) vw (swapL H i j) ∧ Only [g] w ((w.setCell ⟨g, i, none⟩ (.int .i64 (gI H j))).setCell ⟨g, j, none⟩ (.int .i64 (gI H i)))) := Lib.hid (by
    obtain ⟨h1, h2⟩ := hown.set i (gI H j)
    obtain ⟨h3, h4⟩ := h1.set j (gI H i)
    have o1 : Only [g] w (w.setCell ⟨g, i, none⟩ (.int .i64 (gI H j))) := Only.of_grown h2
    have o2 : Only [g] w ((w.setCell ⟨g, i, none⟩ (.int .i64 (gI H j))).setCell ⟨g, j, none⟩ (.int .i64 (gI H i))) := o1.trans (Only.of_grown h4)
    refine ⟨⟨(o2.block a (lt_of_block hbox) (by simpa using hag)).trans hbox, h3, hoff, hlow⟩, o2⟩)
  obtain ⟨ci, fi⟩ := hown.at_ hx
  obtain ⟨cj, fj⟩ := hown.at_ hy
  have c1 : w.cell? ⟨a, 1, none⟩ = some (.slice (some ⟨g, 0, none⟩) n c) := row_cells hbox 1
  clear hbox hown hoff hlow hx hy
  generalize gI H i = x at *
  generalize gI H j = y at *
  by_cases hij : i = j
  · subst hij
    obtain rfl : x = y := by rw [ci] at cj; injection cj with cj; injection cj
    go_enter Try.func35, Try.ntmps35
    go_wp2_with fail
    go_region
    exact ⟨rfl, .tuple #[], results_void rfl _ _, rfl, HE.out.1.drew, HE.out.2.drew⟩
  · have hji : ¬ j = i := fun e => hij e.symm
    go_enter Try.func35, Try.ntmps35
    go_wp2_with fail
    go_region
    exact ⟨rfl, .tuple #[], results_void rfl _ _, rfl, HE.out.1.drew, HE.out.2.drew⟩
end Go.Proofs.Yteoekfmjlmpmgaa
