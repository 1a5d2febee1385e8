/- The program's own turns doubled, and a number turned so often. No statement is proved here. -/
import Derived.Test.YtocpbkmflihcnaaDoorSProg2
namespace Go.Proofs.YtocpbkmflihcnaaDoor
open Go.RowKit
set_option maxRecDepth 100000

theorem run_index_arr (n k : Nat) (hk : k < 32) (w : World) :
    (Instr.index 52 (.agg (arrN n 32)) (.int .i64 (k : Int))).run Tryd.prog w = .ok (.int .u32 (t8N n (2 ^ k) : Nat)) w := by
  obtain ⟨i, hi, hz, hsz, hby⟩ := info_parts info_word
  have hx : (arrN n 32)[k]? = some (.int .u32 (t8N n (2 ^ k) : Nat)) := by
    rw [arrN_end]
    simp [wdV, rowN_get n hk]
  have hlt : k < (arrN n 32).size := by rw [arrN_size n (Nat.le_refl _)]; exact hk
  have hg : (arrN n 32)[k] = .int .u32 (t8N n (2 ^ k) : Nat) := by
    rw [Array.getElem?_eq_getElem hlt] at hx
    injection hx
  simp [Instr.index, run_underlying Tryd.underlying52, asIntOf, go_sem, sizeOf, typeInfo, hi, hsz, hk, hx]
  done
/-- What lies where while an array is doubled: what is doubled, the answer's place, the array that is filled. -/
structure Dbl (n k : Nat) (w wr : World) : Prop where
  from_ : wr.heap[w.heap.size]? = some (.cells (arrN n 32) 52)
  answer : wr.heap[w.heap.size + 1]? = some (.cells (arrN 0 0) 52)
  filled : wr.heap[w.heap.size + 1 + 1]? = some (.cells (arrN (n + n) k) 52)
  below : Below w.heap.size w wr
theorem Dbl.size {n k : Nat} {w wr : World} (h : Dbl n k w wr) : w.heap.size + 3 ≤ wr.heap.size := by
  have := (Array.getElem?_eq_some_iff.1 h.filled).1
  omega
theorem Dbl.then_ {n k : Nat} {w wr w' : World} (h : Dbl n k w wr) (hb : Below wr.heap.size wr w') : Dbl n k w w' := by
  have hz := h.size
  exact ⟨(hb.block _ (by omega)).trans h.from_, (hb.block _ (by omega)).trans h.answer, (hb.block _ (by omega)).trans h.filled, h.below.trans (hb.mono (by omega))⟩
theorem Dbl.next {n k : Nat} {w wr : World} (h : Dbl n k w wr) (hk : k < 32) : Dbl n (k + 1) w (wr.setCell ⟨w.heap.size + 1 + 1, k, none⟩ (.int .u32 (t8N (n + n) (2 ^ k) : Nat))) := by
  refine ⟨?_, ?_, ?_, h.below.setCell (by simp; omega) _⟩
  · rw [Below.heap_setCell _ _ _ _ (by simp; omega)]; exact h.from_
  · rw [Below.heap_setCell _ _ _ _ (by simp)]; exact h.answer
  · rw [setCell_eq_setRow _ _ _ _ _ _ _ h.filled, arrN_set (n + n) hk]
    exact setRow_heap _ _ _ _ _ _ h.filled
theorem Dbl.cell {n k : Nat} {w wr : World} (h : Dbl n k w wr) (hk : k < 32) : ∃ v, wr.cell? ⟨w.heap.size + 1 + 1, k, none⟩ = some v := by
  have hs := arrN_size (n + n) (Nat.le_of_lt hk)
  refine ⟨(arrN (n + n) k)[k]'(by omega), ?_⟩
  simp [World.cell?, h.filled, hs, hk]
theorem Dbl.frozen {n k : Nat} {w wr : World} (h : Dbl n k w wr) : wr.frozen? ⟨w.heap.size + 1 + 1, k, none⟩ = false := by
  simp [World.frozen?, h.filled]
theorem arr_info (m : Nat) : (Tryd.prog.info? 52).map (·.size) = some (arrN m 32).size := by rw [arrN_size m (Nat.le_refl _)]; kernel_rfl
set_option maxHeartbeats 4000000 in
theorem doubled_any (n : Nat) (w : World) (ht : Tabs w) :
    Calls Tryd.prog 34 #[.agg (wdV (rowN n)).toArray] w fun e w' => e = .returned (.agg (wdV (rowN (n + n))).toArray) ∧ Below w.heap.size w w' := by
  rw [← arrN_end, ← arrN_end]
  have HC := Lib.hid ht
  clear ht
  have HI := Lib.hid arr_info
  have HL : Hid (∀ o1 o2 : Obj, (((w.alloc (.cells (arrN n 32) 52)).alloc o1).alloc o2).heap[w.heap.size]? = some (.cells (arrN n 32) 52)) := Lib.hid fun o1 o2 => by
    have h := (((below1 _ o1).alloc (by simp) o2).block w.heap.size (by simp)).trans (heap_alloc_new w (.cells (arrN n 32) 52))
    exact h
  have heap_alloc2_mid : ∀ A B C : Obj, (((w.alloc A).alloc B).alloc C).heap[w.heap.size + 1]? = some B := fun A B C => by
    have h := ((below1 ((w.alloc A).alloc B) C).block (w.heap.size + 1) (by simp)).trans (heap_alloc2_new w A B)
    exact h
  have HM := Lib.hid heap_alloc2_mid
  clear heap_alloc2_mid
  go_enter Tryd.func34, Tryd.ntmps34
  go_wp2_with (refine wpList_load_row rfl 52 _ rfl w.heap.size rfl 52 _ _ _ (HL.out _ _) Tryd.underlying52 rfl (HI.out _) ?_)
  rw [← arrN_zero 0]
  have HD : Hid (Dbl n 0 w (((w.alloc (.cells (arrN n 32) 52)).alloc (.cells (arrN 0 0) 52)).alloc (.cells (arrN 0 0) 52))) := Lib.hid ⟨HL.out _ _, HM.out _ _ _, by
    have h := heap_alloc_new ((w.alloc (.cells (arrN n 32) 52)).alloc (.cells (arrN 0 0) 52)) (.cells (arrN 0 0) 52)
    rw [arrN_zero (n + n), ← arrN_zero 0]
    simpa using h, below3 _ _ _ _⟩
  generalize ((w.alloc (.cells (arrN n 32) 52)).alloc (.cells (arrN 0 0) 52)).alloc (.cells (arrN 0 0) 52) = w0 at *
  clear HL
  go_loopw [7] (fun i wr => ∃ k : Nat, k ≤ 32 ∧ i = .int .i64 k ∧ Hid (Dbl n k w wr)) (fun i _ => 32 - (intOf i).toNat)
  case atStart => exact ⟨0, by omega, rfl, HD⟩
  case round =>
    clear HD
    obtain ⟨k, hk, rfl, HK⟩ := hrel
    by_cases hlt : k < 32
    · have hx := run_index_arr n k hlt
      have hpl := pow_lt32 hlt
      have hm := t8N_lt n hpl
      have HT := Lib.hid (of_any n (t8N n (2 ^ k)) hm wr (HC.out.then_ HK.below))
      rw [← t8N_add] at HT
      have HN := Lib.hid (fun w' (h : Dbl n k w w') => h.next hlt)
      have HQ := Lib.hid (fun w' (h : Dbl n k w w') => h.cell hlt)
      rw [← arrN_end] at HT
      generalize t8N (n + n) (2 ^ k) = y at *
      generalize t8N n (2 ^ k) = x at *
      go_wp2_with first | (refine wpList_load_row rfl 52 _ rfl w.heap.size rfl 52 _ _ _ HK.from_ Tryd.underlying52 rfl (HI.out _) ?_) | (go_at_call 33; refine HT.out.mono ?_; rintro e w' ⟨rfl, hb⟩; have HK' := Lib.hid (HK.out.then_ hb); have hf := HK'.out.frozen; obtain ⟨v0, hv0⟩ := HQ.out _ HK'.out; clear hb)
      go_roundw
      case rel => exact ⟨k + 1, by omega, by go_num, HN.out _ HK'.out⟩
      case measure => simp [intOf]; omega
    · have hk32 : k = 32 := by omega
      subst hk32
      go_wp2_with first | (refine wpList_load_row rfl 52 _ rfl (w.heap.size + 1 + 1) rfl 52 _ _ _ HK.filled Tryd.underlying52 rfl (HI.out _) ?_) | (refine wpList_store_row rfl 52 _ _ rfl (w.heap.size + 1) (arrN (n + n) 32) rfl rfl 52 _ HK.answer (HI.out _) (by rw [arrN_size _ (Nat.le_refl _), arrN_size _ (Nat.zero_le _)]) (arrN_cells _ _) ?_)
      exact bodyPost_ret (results_cell_row (fn := Tryd.f34) rfl _ _ (w.heap.size + 1) 52 _ _ _ rfl (setRow_heap _ _ _ _ _ _ HK.answer) Tryd.underlying52 rfl (HI.out _)) rfl ⟨rfl, below_setRow HK.below (by omega) _⟩
end Go.Proofs.YtocpbkmflihcnaaDoor
