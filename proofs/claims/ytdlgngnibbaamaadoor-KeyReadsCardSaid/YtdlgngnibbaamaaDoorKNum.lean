/- The contracts of keyenc's widened, and of the document's own number: no statement is proved here. -/
import Derived.Test.YtdlgngnibbaamaaDoorKText
namespace Go.Proofs.YtdlgngnibbaamaaDoor
open Go.RowKit
set_option maxRecDepth 100000

/-- Eight bytes of which the lowest k are told. -/
def arr8 (k : Nat) (X : Int) : Array Value := #[.int .u8 (if k ≤ 7 then 0 else X / 72057594037927936 % 256), .int .u8 (if k ≤ 6 then 0 else X / 281474976710656 % 256), .int .u8 (if k ≤ 5 then 0 else X / 1099511627776 % 256), .int .u8 (if k ≤ 4 then 0 else X / 4294967296 % 256), .int .u8 (if k ≤ 3 then 0 else X / 16777216 % 256), .int .u8 (if k ≤ 2 then 0 else X / 65536 % 256), .int .u8 (if k ≤ 1 then 0 else X / 256 % 256), .int .u8 (if k ≤ 0 then 0 else X % 256)]
theorem arr8_end (X : Int) : arr8 8 X = (btV (beB 8 X)).toArray := by
  have a2 : X / 65536 = X / 256 / 256 := by omega
  have a3 : X / 16777216 = X / 256 / 256 / 256 := by omega
  have a4 : X / 4294967296 = X / 256 / 256 / 256 / 256 := by omega
  have a5 : X / 1099511627776 = X / 256 / 256 / 256 / 256 / 256 := by omega
  have a6 : X / 281474976710656 = X / 256 / 256 / 256 / 256 / 256 / 256 := by omega
  have a7 : X / 72057594037927936 = X / 256 / 256 / 256 / 256 / 256 / 256 / 256 := by omega
  rw [arr8, a2, a3, a4, a5, a6, a7]
  simp [btV, beB, leB]

theorem put8 {w : World} {g : Nat} {t : TypeId} {a0 a1 a2 a3 a4 a5 a6 a7 : Value} (h : w.heap[g]? = some (.cells #[a0, a1, a2, a3, a4, a5, a6, a7] t (0, 0))) (b0 b1 b2 b3 b4 b5 b6 b7 : Value) :
    ((((((((w.setCell ⟨g, 0, none⟩ b0).setCell ⟨g, 1, none⟩ b1).setCell ⟨g, 2, none⟩ b2).setCell ⟨g, 3, none⟩ b3).setCell ⟨g, 4, none⟩ b4).setCell ⟨g, 5, none⟩ b5).setCell ⟨g, 6, none⟩ b6).setCell ⟨g, 7, none⟩ b7).heap[g]? = some (.cells #[b0, b1, b2, b3, b4, b5, b6, b7] t (0, 0)) := by
  have h0 := heap_setCell_same _ g 0 _ _ b0 h
  have h1 := heap_setCell_same _ g 1 _ _ b1 h0
  have h2 := heap_setCell_same _ g 2 _ _ b2 h1
  have h3 := heap_setCell_same _ g 3 _ _ b3 h2
  have h4 := heap_setCell_same _ g 4 _ _ b4 h3
  have h5 := heap_setCell_same _ g 5 _ _ b5 h4
  have h6 := heap_setCell_same _ g 6 _ _ b6 h5
  have h7 := heap_setCell_same _ g 7 _ _ b7 h6
  simpa using h7
def WideRel (w wr : World) (k : Nat) (X : Int) : Prop := wr.heap[w.heap.size]? = some (.cells (arr8 0 X) 123 (0, 0)) ∧ wr.heap[w.heap.size + 1]? = some (.cells (arr8 k X) 123 (0, 0)) ∧ Below w.heap.size w wr
theorem wide_step {w wr : World} {X : Int} (k : Nat) (hk : k < 8) (o : Nat) (v : Value) (i : Int) (hi : i = (k : Int) + 1) (h : WideRel w wr k X) (hv : (arr8 k X).setIfInBounds o v = arr8 (k + 1) X) :
    ∃ k' : Nat, k' ≤ 8 ∧ Value.int .i64 i = .int .i64 k' ∧ WideRel w (wr.setCell ⟨w.heap.size + 1, o, none⟩ v) k' X := by
  refine ⟨k + 1, by omega, by rw [hi]; rfl, (heap_setCell_other _ _ _ _ (by simp)).trans h.1, ?_, h.2.2.setCell (by simp) _⟩
  rw [heap_setCell_same _ _ _ _ _ _ h.2.1, hv]
set_option maxHeartbeats 4000000 in
theorem widened_any (n : Int) (hn : okInt n) (w : World) :
    Calls Tryd.prog 106 #[.int .i64 n] w fun e w' => e = .returned (.agg (btV (beB 8 (n + 9223372036854775808))).toArray) ∧ Below w.heap.size w w' := by
  obtain ⟨X, hX⟩ : ∃ X, X = n + 9223372036854775808 := ⟨_, rfl⟩
  have hX0 : 0 ≤ X := by unfold okInt at hn; omega
  have hX1 : X < 18446744073709551616 := by unfold okInt at hn; omega
  rw [← hX]
  have hXw : IntKind.u64.wrap (IntKind.u64.wrap n + 9223372036854775808) = X := by
    show (n % 18446744073709551616 + 9223372036854775808) % 18446744073709551616 = X
    omega
  replace hX := Lib.hid hX
  go_enter Tryd.func106, Tryd.ntmps106
  go_wp2_with fail
  go_loopw [9] (fun i wr => ∃ k : Nat, k ≤ 8 ∧ i = .int .i64 k ∧ WideRel w wr k X) (fun i _ => 8 - (intOf i).toNat)
  case atStart => exact ⟨0, by omega, rfl, heap_alloc2_old _ _ _, heap_alloc2_new _ _ _, below2 _ _ _⟩
  case round =>
    obtain ⟨k, hk, rfl, hR⟩ := hrel
    have HB := Lib.hid hR
    have hz : w.heap.size + 2 ≤ wr.heap.size := lt_of_block hR.2.1
    obtain ⟨h0, h1, -⟩ := hR
    by_cases hk8 : k < 8
    · have hc : ∀ i, i < 8 → ∃ v, wr.cell? ⟨w.heap.size + 1, i, none⟩ = some v := fun i hi => by
        rw [row_cells h1 i]
        exact ⟨_, Array.getElem?_eq_getElem (by simpa [arr8] using hi)⟩
      have hf : wr.frozen? ⟨w.heap.size + 1, 7 - k, none⟩ = false := frozen_of_row _ _ _ _ _ h1
      obtain ⟨c, hc⟩ := hc (7 - k) (by omega)
      clear h0 h1
      obtain rfl | rfl | rfl | rfl | rfl | rfl | rfl | rfl : k = 0 ∨ k = 1 ∨ k = 2 ∨ k = 3 ∨ k = 4 ∨ k = 5 ∨ k = 6 ∨ k = 7 := by omega
      all_goals (
        go_wp2_with fail
        go_roundw
        case rel => exact wide_step _ hk8 _ _ _ rfl HB.out (by simp [arr8] <;> omega)
        case measure => simp [intOf])
    · have hk9 : k = 8 := by omega
      rw [hk9] at h1
      have c0 : ∀ i, wr.cell? ⟨w.heap.size, i, none⟩ = (arr8 0 X)[i]? := row_cells h0
      have c1 : ∀ i, wr.cell? ⟨w.heap.size + 1, i, none⟩ = (arr8 8 X)[i]? := row_cells h1
      have f0 : ∀ i, wr.frozen? ⟨w.heap.size, i, none⟩ = false := fun i => frozen_of_row _ _ _ _ _ h0
      have H0 := Lib.hid h0
      clear h0 h1 hk9
      simp only [arr8, Nat.reduceLeDiff, if_true, if_false] at c0 c1 H0
      go_wp2_with fail
      have h8 := row_cells (put8 H0.out (.int .u8 (X / 72057594037927936 % 256)) (.int .u8 (X / 281474976710656 % 256)) (.int .u8 (X / 1099511627776 % 256)) (.int .u8 (X / 4294967296 % 256)) (.int .u8 (X / 16777216 % 256)) (.int .u8 (X / 65536 % 256)) (.int .u8 (X / 256 % 256)) (.int .u8 (X % 256)))
      refine bodyPost_ret (v := .agg (arr8 8 X)) (by simp [results, Tryd.results106, go_sem, arr8, h8]) rfl ⟨by rw [arr8_end], ?_⟩
      exact (((((((HB.out.2.2.setCell (by simp) _).setCell (by simp) _).setCell (by simp) _).setCell (by simp) _).setCell (by simp) _).setCell (by simp) _).setCell (by simp) _).setCell (by simp) _

theorem make8 (X : Int) (w : World) : (Instr.makeSlice 28 (.int .i64 8) (.int .i64 8)).run Tryd.prog w = .ok (.slice (some ⟨w.heap.size, 0, none⟩) 8 8) (w.alloc (.cells (arr8 0 X) 5)) := by
  obtain ⟨i, h1, h2, h3, h4⟩ := info_parts info_byte
  have hb2 : (i.bytes : Int) * ((8 : Nat) : Int) ≤ 281474976710656 := by rw [h4]; decide
  have := run_make (P := Tryd.prog) w 28 5 i (.int .u8 0) Tryd.underlying28 h1 h2 .i64 .i64 8 8 (by omega) (by omega) hb2 (by omega)
  rw [h3] at this
  have e : madeCells (Value.int .u8 0).cells (Int.toNat 8 * 1) = arr8 0 X := by
    show madeCells #[Value.int .u8 0] 8 = arr8 0 X
    apply Array.ext
    · simp [madeCells, arr8]
    · intro i h1 h2
      simp [madeCells] at h1
      simp only [madeCells, Array.getElem_map, Array.getElem_range]
      obtain rfl | rfl | rfl | rfl | rfl | rfl | rfl | rfl : i = 0 ∨ i = 1 ∨ i = 2 ∨ i = 3 ∨ i = 4 ∨ i = 5 ∨ i = 6 ∨ i = 7 := by omega
      all_goals simp [arr8]
  rw [e] at this
  exact this
def NumRel (w wr : World) (k : Nat) (X : Int) : Prop := wr.heap[w.heap.size]? = some (.cells (arr8 k X) 5 (0, 0)) ∧ Below w.heap.size w wr
theorem num_step {w wr : World} {X : Int} (k : Nat) (hk : k < 8) (o : Nat) (v : Value) (i u : Int) (hi : i = 6 - (k : Int)) (hu : u = X / 256 ^ (k + 1)) (h : NumRel w wr k X) (hv : (arr8 k X).setIfInBounds o v = arr8 (k + 1) X) :
    ∃ k' : Nat, k' ≤ 8 ∧ Value.int .i64 i = .int .i64 (7 - k') ∧ Value.int .u64 u = .int .u64 (X / 256 ^ k') ∧ NumRel w (wr.setCell ⟨w.heap.size, o, none⟩ v) k' X := by
  refine ⟨k + 1, by omega, by rw [hi]; congr 1; omega, by rw [hu], ?_, h.2.setCell (by simp) _⟩
  rw [heap_setCell_same _ _ _ _ _ _ h.1, hv]
set_option maxHeartbeats 4000000 in
theorem refNumber_any (n : Int) (hn : okInt n) (w : World) :
    Calls Tryd.prog 82 #[.int .i64 n] w (Makes (beB 8 (n + 9223372036854775808)) w) := by
  obtain ⟨X, hX⟩ : ∃ X, X = n + 9223372036854775808 := ⟨_, rfl⟩
  have hX0 : 0 ≤ X := by unfold okInt at hn; omega
  have hX1 : X < 18446744073709551616 := by unfold okInt at hn; omega
  rw [← hX]
  have hXw : IntKind.u64.wrap (IntKind.u64.wrap n + 9223372036854775808) = X := by
    show (n % 18446744073709551616 + 9223372036854775808) % 18446744073709551616 = X
    omega
  replace hX := Lib.hid hX
  have hmk := make8 X
  go_enter Tryd.func82, Tryd.ntmps82
  go_wp2_with fail
  go_loopw [4, 5] (fun u i wr => ∃ k : Nat, k ≤ 8 ∧ i = .int .i64 (7 - k) ∧ u = .int .u64 (X / 256 ^ k) ∧ NumRel w wr k X) (fun _ i _ => (intOf i + 1).toNat)
  case atStart => exact ⟨0, by omega, rfl, by simp, heap_alloc_new _ _, below1 _ _⟩
  case round =>
    obtain ⟨k, hk, rfl, rfl, hR⟩ := hrel
    have HB := Lib.hid hR
    have hz : w.heap.size + 1 ≤ wr.heap.size := lt_of_block hR.1
    obtain ⟨h0, -⟩ := hR
    by_cases hk8 : k < 8
    · have hc : ∀ i, i < 8 → ∃ v, wr.cell? ⟨w.heap.size, i, none⟩ = some v := fun i hi => by
        rw [row_cells h0 i]
        exact ⟨_, Array.getElem?_eq_getElem (by simpa [arr8] using hi)⟩
      have hf : wr.frozen? ⟨w.heap.size, 7 - k, none⟩ = false := frozen_of_row _ _ _ _ _ h0
      obtain ⟨c, hc⟩ := hc (7 - k) (by omega)
      clear h0
      obtain rfl | rfl | rfl | rfl | rfl | rfl | rfl | rfl : k = 0 ∨ k = 1 ∨ k = 2 ∨ k = 3 ∨ k = 4 ∨ k = 5 ∨ k = 6 ∨ k = 7 := by omega
      all_goals (
        go_wp2_with fail
        go_roundw
        case rel => exact num_step _ hk8 _ _ _ _ (by omega) (by omega) HB.out (by simp [arr8] <;> omega)
        case measure => simp [intOf])
    · have hneg : ¬ (0 : Int) ≤ 7 - (k : Int) := by omega
      go_wp2_with fail
      go_ret
      have hk9 : k = 8 := by omega
      subst hk9
      have h := HB.out.1
      rw [arr8_end] at h
      refine ⟨.slice (some ⟨w.heap.size, 0, none⟩) 8 8, rfl, ?_, HB.out.2⟩
      exact ⟨by simp [btV, beB_len], .inr ⟨_, 8, _, by rw [beB_len], Nat.le_refl _, h, Nat.le_of_eq (beB_len 8 X), by unfold maxLen; omega, by simp [btV, beB_len], List.take_of_length_le (by simp [btV, beB_len])⟩⟩
end Go.Proofs.YtdlgngnibbaamaaDoor
