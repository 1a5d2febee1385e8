/- Package block's simple calls: contracts. No statement is proved here. -/
import Derived.Test.YtlpnhfceblbllaaDoorDBox2
import Derived.Carry
namespace Go.Proofs.YtlpnhfceblbllaaDoor
open Go.RowKit
open Go.Maps (Keyed IsMap Tidy)
set_option maxRecDepth 100000

theorem row_empty (w : World) (B : Nat) : w.ownsRow B 95 2 (.slice none 0 0) 0 [] := World.ownsRow_nil _ _ _ _
theorem new_any (n : Nat) (hn : n ≤ 9223372036854775807) (w : World) : Calls Tryd.prog 16 #[.int .i64 (n : Int)] w fun e w' => ∃ h g, e = .returned (.pointer (some ⟨h, 0, none⟩)) ∧ w'.heap[h]? = some (.cells #[.pointer (some ⟨g, 0, none⟩)] 74) ∧ w.heap.size ≤ h ∧ BoxAt w' w.heap.size g (Dk.new n) 0 ∧ Below w.heap.size w w' := by
  have hmm := @run_makeMap Tryd.prog
  have hm : ¬ ((n : Int) < 0) := by omega
  go_enter Tryd.func16, Tryd.ntmps16
  go_wp2
  go_ret
  have e1 : w.heap.size + 1 = (w.alloc (.map #[] 0)).heap.size := by simp
  have e2 : w.heap.size + 1 + 1 = ((w.alloc (.map #[] 0)).alloc (.map #[] 0)).heap.size := by simp
  refine ⟨_, rfl, w.heap.size + 1 + 1, heap_alloc_at _ _ _ (by simp), by omega, ⟨Dk.new_ok n, ⟨w.heap.size, w.heap.size + 1, .slice none 0 0, 0, 0, .map [], .map [], []⟩, ?_⟩, (below3 _ _ _ _).alloc (by simp; omega) _⟩
  exact {
    box := by rw [Below.heap_alloc _ _ _ (by simp), e2]; exact heap_alloc_new _ _
    gB := by omega
    sB := Nat.le_refl _
    nB := by show _ ≤ w.heap.size + 1; omega
    ne := by show w.heap.size ≠ w.heap.size + 1; omega
    mapS := (((World.ownsMap_made w _ _ _).alloc _).alloc _).alloc _
    mapN := by
      have h := World.ownsMap_made (w.alloc (.map #[] 0)) Tryd.prog 3 RowR
      rw [← e1] at h
      exact (h.alloc _).alloc _
    isS := MapIs.start _ _
    isN := MapIs.start _ _
    wlen := rfl
    wait := World.ownsRow_nil _ _ _ _
    rows := fun i p v h _ => (by simp [Dk.new] at h)
    numS := Nat.le_refl _
    numN := Nat.le_refl _
    many := hn
    acts := Nat.zero_le _ }
theorem disk_any (h g : Nat) (w : World) (hh : w.cell? ⟨h, 0, none⟩ = some (.pointer (some ⟨g, 0, none⟩))) :
    Calls Tryd.prog 22 #[.pointer (some ⟨h, 0, none⟩)] w fun e w' => e = .returned (.pointer (some ⟨w.heap.size, 0, none⟩)) ∧ w' = w.alloc (.cells #[.pointer (some ⟨g, 0, none⟩)] 88) := by
  go_enter Tryd.func22, Tryd.ntmps22
  go_wp2
  go_ret
  exact ⟨rfl, rfl⟩
theorem boxC_get (d : Dk) (sb nb : Nat) (wv : Value) : (boxC d sb nb wv)[0]? = some (.int .i64 (d.many : Int)) ∧ (boxC d sb nb wv)[1]? = some (.map (some sb)) ∧ (boxC d sb nb wv)[2]? = some (.map (some nb)) ∧ (boxC d sb nb wv)[3]? = some wv ∧ (boxC d sb nb wv)[4]? = some (.bool d.armed) ∧ (boxC d sb nb wv)[5]? = some (.int .i64 (d.acts : Int)) ∧ (boxC d sb nb wv)[6]? = some (.bool d.done) ∧ (boxC d sb nb wv)[7]? = some (.bool d.down) := ⟨rfl, rfl, rfl, rfl, rfl, rfl, rfl, rfl⟩
theorem sectors_any (h g : Nat) (w : World) (B N : Nat) (d : Dk) (hh : w.cell? ⟨h, 0, none⟩ = some (.pointer (some ⟨g, 0, none⟩))) (hb : BoxAt w B g d N) :
    Calls Tryd.prog 44 #[.pointer (some ⟨h, 0, none⟩)] w fun e w' => e = .returned (.int .i64 (d.many : Int)) ∧ w = w' := by
  obtain ⟨hok, s, hb⟩ := hb
  have c0 := (hb.cells 0).trans (boxC_get d s.sb s.nb s.wv).1
  clear hb
  go_enter Tryd.func44, Tryd.ntmps44
  go_wp2
  go_ret
  exact ⟨rfl, rfl⟩
theorem results_void {P : Program} {fn : Func} (h : fn.results = #[]) (tmps : Array Value) (w : World) : (results fn tmps).run P w = .ok (.tuple #[]) w := by simp [results, h]
theorem set_heap {w : World} {g i : Nat} {cs : Array Value} {t : TypeId} (h : w.heap[g]? = some (.cells cs t)) (u : Value) : (w.setCell ⟨g, i, none⟩ u).heap[g]? = some (.cells (cs.setIfInBounds i u) t) := by
  rw [setCell_eq_setRow w g i cs t (0, 0) u h]
  exact setRow_heap _ _ _ _ _ _ h
theorem set_off (w : World) {g i b : Nat} (u : Value) (h : b ≠ g) : (w.setCell ⟨g, i, none⟩ u).heap[b]? = w.heap[b]? := Below.heap_setCell w ⟨g, i, none⟩ u b h
/-- Three cells of the box turned. -/
theorem arm_end {w : World} {B g N : Nat} {d : Dk} {s : Spot} (hok : d.ok) (h : BoxOf w B g d N s) (n : Int) (b : Bool) (hn : -9223372036854775808 ≤ n ∧ n ≤ 9223372036854775807) {m : Int} (hm : m = (n.toNat : Nat)) :
    BoxAt ((((w.setCell ⟨g, 4, none⟩ (.bool true)).setCell ⟨g, 5, none⟩ (.int .i64 m)).setCell ⟨g, 6, none⟩ (.bool b)).drew) B g (d.arm n b) N ∧ Turns TB B w ((((w.setCell ⟨g, 4, none⟩ (.bool true)).setCell ⟨g, 5, none⟩ (.int .i64 m)).setCell ⟨g, 6, none⟩ (.bool b)).drew) := by
  subst hm
  have h1 := set_heap (i := 4) h.box (.bool true)
  have h2 := set_heap (i := 5) h1 (.int .i64 ((n.toNat : Nat) : Int))
  have h3 := set_heap (i := 6) h2 (.bool b)
  refine ⟨⟨Dk.arm_ok hok n b, s, h.turn (d' := d.arm n b) (fun x hx hne => ?_) h3 rfl rfl rfl rfl (by show n.toNat ≤ _; omega)⟩, ?_⟩
  · show ((((w.setCell ⟨g, 4, none⟩ (.bool true)).setCell ⟨g, 5, none⟩ _).setCell ⟨g, 6, none⟩ (.bool b))).heap[x]? = _
    rw [set_off _ _ hne, set_off _ _ hne, set_off _ _ hne]
  · have t3 := (((Turns.refl TB B w).setCell (p := ⟨g, 4, none⟩) h.box (TB_box _ _) h.gB (.bool true)).setCell (p := ⟨g, 5, none⟩) h1 (TB_box _ _) h.gB (.int .i64 ((n.toNat : Nat) : Int))).setCell (p := ⟨g, 6, none⟩) h2 (TB_box _ _) h.gB (.bool b)
    exact ⟨t3.below.drew, t3.block⟩
set_option maxHeartbeats 4000000 in
theorem arm_any (h g : Nat) (n : Int) (b : Bool) (w : World) (B N : Nat) (d : Dk) (hn : okInt n) (hh : w.cell? ⟨h, 0, none⟩ = some (.pointer (some ⟨g, 0, none⟩))) (hb : BoxAt w B g d N) :
    Calls Tryd.prog 39 #[.pointer (some ⟨h, 0, none⟩), .int .i64 n, .bool b] w fun e w' => e = .returned (.tuple #[]) ∧ BoxAt w' B g (d.arm n b) N ∧ Turns TB B w w' := by
  obtain ⟨hok, s, hb⟩ := hb
  obtain ⟨q0, q1, q2, q3, q4, q5, q6, q7⟩ := boxC_get d s.sb s.nb s.wv
  have c4 := (hb.cells 4).trans q4
  have c5 := (hb.cells 5).trans q5
  have c6 := (hb.cells 6).trans q6
  have f4 := hb.frozen 4
  have f5 := hb.frozen 5
  have f6 := hb.frozen 6
  clear q0 q1 q2 q3 q4 q5 q6 q7
  unfold okInt at hn
  have HB := Lib.hid hb
  clear hb
  have hne : h ≠ g := by
    rintro rfl
    have e := (HB.out.cells 0).trans (boxC_get d s.sb s.nb s.wv).1
    rw [e] at hh
    cases hh
  have hne' : g ≠ h := fun e => hne e.symm
  by_cases h0 : n < 0
  · go_enter Tryd.func39, Tryd.ntmps39
    go_wp2
    go_region
    exact ⟨rfl, .tuple #[], results_void rfl _ _, rfl, (arm_end hok HB.out n b hn (by omega) ).1, (arm_end hok HB.out n b hn (by omega)).2⟩
  · go_enter Tryd.func39, Tryd.ntmps39
    go_wp2
    go_region
    exact ⟨rfl, .tuple #[], results_void rfl _ _, rfl, (arm_end hok HB.out n b hn (by omega) ).1, (arm_end hok HB.out n b hn (by omega)).2⟩
end Go.Proofs.YtlpnhfceblbllaaDoor
