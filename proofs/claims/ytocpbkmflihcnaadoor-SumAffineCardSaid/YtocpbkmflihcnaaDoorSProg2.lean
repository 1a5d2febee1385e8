/- The program's own turns of each bit: an array that is handed on. No statement is proved here. -/
import Derived.Test.YtocpbkmflihcnaaDoorSProg1
import Derived.Test.YtocpbkmflihcnaaDoorSRefJ3
import Derived.Test.YtocpbkmflihcnaaDoorSProg0
import Derived.Laws.Rows
import Derived.Laws.CopyOwn
namespace Go.Proofs.YtocpbkmflihcnaaDoor
open Go.RowKit
set_option maxRecDepth 100000

/-- The tables that the layer's calls read, as they lie. -/
structure Tabs (w : World) : Prop where
  turned : Tab16 w
  low : Tab32 w
  size : 2 ≤ w.heap.size
theorem Tabs.then_ {w w' : World} (h : Tabs w) (hb : Below w.heap.size w w') : Tabs w' :=
  ⟨fun i hi => (hb.cell (p := ⟨0, i, none⟩) (by have := h.size; simp; omega)).trans (h.turned i hi), fun i hi => (hb.cell (p := ⟨1, i, none⟩) (by have := h.size; simp; omega)).trans (h.low i hi), Nat.le_trans h.size hb.size⟩
theorem and_low {q : Nat} (h0 : q ≠ 0) (hq : q < 4294967296) : bits .and .u32 (q : Int) ((q : Int) - 1) = ((q &&& (q - 1) : Nat) : Int) := by
  have e1 : (q : Int) - 1 = ((q - 1 : Nat) : Int) := by omega
  have := u32_and (q : Int) ((q - 1 : Nat) : Int) (by omega) (by omega) (by omega) (by omega)
  rw [e1, this]
  simp
set_option maxHeartbeats 2000000 in
theorem of_any (n r : Nat) (hr : r < 4294967296) (w : World) (hc : Tabs w) :
    Calls Tryd.prog 33 #[.agg (wdV (rowN n)).toArray, .int .u32 (r : Int)] w fun e w' => e = .returned (.int .u32 (t8N n r : Nat)) ∧ Below w.heap.size w w' := by
  have HC := Lib.hid (hc.then_ (below1 w (.cells (wdV (rowN n)).toArray 52)))
  have HB := Lib.hid (below1 w (.cells (wdV (rowN n)).toArray 52))
  have HA : Hid (∀ i, i < 32 → (w.alloc (.cells (wdV (rowN n)).toArray 52)).cell? ⟨w.heap.size, i, none⟩ = some (.int .u32 (t8N n (2 ^ i) : Nat))) := Lib.hid fun i hi => by
    rw [World.cell?_alloc_mark]
    simp [wdV, rowN_get n hi]
  clear hc
  go_enter Tryd.func33, Tryd.ntmps33
  go_wp2
  generalize w.alloc (.cells (wdV (rowN n)).toArray 52) = wo at *
  go_loop [1, 5] (fun u v => ∃ (q o : Nat), u = .int .u32 q ∧ v = .int .u32 o ∧ q < 4294967296 ∧ o < 4294967296 ∧ Hid (o ^^^ t8N n q = t8N n r)) (fun u _ => (intOf u).toNat)
  case atStart => exact ⟨r, 0, rfl, rfl, hr, by omega, Lib.hid (by rw [Nat.zero_xor])⟩
  case round =>
    obtain ⟨q, o, rfl, rfl, hq, ho, HK⟩ := hrel
    by_cases h0 : q = 0
    · subst h0
      go_wp2
      go_ret
      exact ⟨ret_int (by rw [← HK, t8N_zero, Nat.xor_zero]), HB.out⟩
    · have hz : ((q : Int) == 0) = false := by simp; omega
      have h1 := (low_bit h0 hq).1
      have h2 := (low_bit h0 hq).2.1
      have HL := Lib.hid (t8N_low n h0 hq)
      have ha := and_low h0 hq
      have HT := Lib.hid (ctz_any q h0 hq wo HC.out.low)
      have c0 := HA.out (Lib.ctz 32 q) h1
      generalize Lib.ctz 32 q = k at *
      generalize q &&& (q - 1) = q2 at *
      have hy := t8N_lt n (pow_lt32 h1)
      generalize t8N n (2 ^ k) = y at *
      have HX := Lib.hid (xor32 o y ho hy)
      go_wp2_with (go_at_call 35; refine HT.out.mono ?_; rintro e w' ⟨rfl, rfl⟩)
      go_round
      case rel => exact ⟨q2, o ^^^ y, rfl, by rw [HX.out], by omega, Nat.xor_lt_two_pow (n := 32) ho hy, by rw [Nat.xor_assoc, HL.out]; exact HK⟩
      case measure => simp [intOf]; omega
/-- An array of 32 numbers, filled so far. -/
def fillN (n k : Nat) : List Nat := (rowN n).take k ++ List.replicate (32 - k) 0
theorem fillN_len (n : Nat) {k : Nat} (hk : k ≤ 32) : (fillN n k).length = 32 := by
  rw [fillN, List.length_append, List.length_take, rowN_len, List.length_replicate]; omega
theorem fillN_end (n : Nat) : fillN n 32 = rowN n := by
  rw [fillN, take32]; simp
theorem fillN_set (n : Nat) {k : Nat} (hk : k < 32) : (fillN n k).set k (t8N n (2 ^ k)) = fillN n (k + 1) := by
  have hl : ((rowN n).take k).length = k := by rw [List.length_take, rowN_len]; omega
  unfold fillN
  rw [rowN_snoc n hk, List.set_append_right k _ (by omega), hl, Nat.sub_self, show 32 - k = (32 - (k + 1)) + 1 by omega, List.replicate_succ, List.set_cons_zero, List.append_assoc]
  rfl
def arrN (n k : Nat) : Array Value := (wdV (fillN n k)).toArray
theorem arrN_size (n : Nat) {k : Nat} (hk : k ≤ 32) : (arrN n k).size = 32 := by
  rw [arrN, List.size_toArray, wdV_len, fillN_len n hk]
theorem arrN_set (n : Nat) {k : Nat} (hk : k < 32) : (arrN n k).setIfInBounds k (.int .u32 (t8N n (2 ^ k) : Nat)) = arrN n (k + 1) := by
  unfold arrN
  rw [List.setIfInBounds_toArray, ← fillN_set n hk, wdV, wdV, List.map_set]
theorem arrN_zero (n : Nat) : arrN n 0 = #[.int .u32 0, .int .u32 0, .int .u32 0, .int .u32 0, .int .u32 0, .int .u32 0, .int .u32 0, .int .u32 0, .int .u32 0, .int .u32 0, .int .u32 0, .int .u32 0, .int .u32 0, .int .u32 0, .int .u32 0, .int .u32 0, .int .u32 0, .int .u32 0, .int .u32 0, .int .u32 0, .int .u32 0, .int .u32 0, .int .u32 0, .int .u32 0, .int .u32 0, .int .u32 0, .int .u32 0, .int .u32 0, .int .u32 0, .int .u32 0, .int .u32 0, .int .u32 0] := by
  unfold arrN fillN
  rw [List.take_zero, List.nil_append]
  rfl
theorem arrN_end (n : Nat) : arrN n 32 = (wdV (rowN n)).toArray := by rw [arrN, fillN_end]
theorem wdV_cells (l : List Nat) : (wdV l).toArray.all (·.oneCell') = true := by
  rw [Array.all_eq_true_iff_forall_mem]
  intro x hx
  rw [List.mem_toArray, wdV, List.mem_map] at hx
  obtain ⟨y, -, rfl⟩ := hx
  rfl
theorem arrN_cells (n k : Nat) : (arrN n k).all (·.oneCell') = true := wdV_cells _
set_option maxHeartbeats 2000000 in
theorem eightTurns_any (w : World) (ht : Tabs w) :
    Calls Tryd.prog 32 #[] w fun e w' => e = .returned (.agg (wdV (rowN 1)).toArray) ∧ Below w.heap.size w w' := by
  have HC := Lib.hid ht
  have HB := Lib.hid (below1 w (.cells (arrN 1 0) 52))
  clear ht
  go_enter Tryd.func32, Tryd.ntmps32
  go_wp2
  rw [← arrN_zero 1]
  generalize hw0 : w.alloc (.cells (arrN 1 0) 52) = w0 at *
  have hz0 : w0.heap.size = w.heap.size + 1 := by rw [← hw0]; simp
  rw [← hz0]
  have HZ := Lib.hid hz0
  clear hz0
  have hg0 := Lib.hid (show w0.heap[w.heap.size]? = some (.cells (arrN 1 0) 52) by rw [← hw0]; exact heap_alloc_new w _)
  clear hw0
  go_loopw [3] (fun i wr => ∃ k : Nat, k ≤ 32 ∧ i = .int .i64 k ∧ wr = w0.alloc (.cells (arrN 1 k) 52)) (fun i _ => 32 - (intOf i).toNat)
  case atStart => exact ⟨0, by omega, rfl, rfl⟩
  case round =>
    obtain ⟨k, hk, rfl, rfl⟩ := hrel
    by_cases hlt : k < 32
    · obtain ⟨p, hp⟩ : ∃ p, p = 2 ^ k := ⟨_, rfl⟩
      have HS := shl_bit hlt
      have hpl := pow_lt32 hlt
      rw [← hp] at HS hpl
      have HE := Lib.hid (eight_any p hpl (w0.alloc (.cells (arrN 1 k) 52)) (HC.out.then_ (below_then HB.out (below1 _ _))).turned)
      have HN := Lib.hid (arrN_set 1 hlt)
      rw [show t8N 1 (2 ^ k) = t8 p by rw [t8N, t8N, hp]] at HN
      have hsz := arrN_size 1 hk
      have HS1 := Lib.hid HS
      clear HS hp
      generalize t8 p = y at *
      go_wp2_with (go_at_call 31; rw [HS1.out]; refine HE.out.mono ?_; rintro e w' ⟨rfl, rfl⟩)
      go_roundw
      case rel => exact ⟨k + 1, by omega, by go_num, by rw [HN.out]⟩
      case measure => simp [intOf]; omega
    · have hk32 : k = 32 := by omega
      subst hk32
      have hi : (Tryd.prog.info? 52).map (·.size) = some (arrN 1 32).size := by rw [arrN_size 1 (Nat.le_refl _)]; kernel_rfl
      have hs : (arrN 1 0).size = (arrN 1 32).size := by rw [arrN_size 1 (Nat.le_refl _), arrN_size 1 (Nat.zero_le _)]
      have ho : (arrN 1 32).all (·.oneCell') = true := arrN_cells 1 32
      have HI := Lib.hid (And.intro hi (And.intro hs ho))
      clear hi hs ho
      have hl := Lib.hid (heap_alloc_new w0 (.cells (arrN 1 32) 52))
      have hb1 := below1 w0 (.cells (arrN 1 32) 52)
      have hl2 := Lib.hid ((hb1.block w.heap.size (by rw [HZ.out]; omega)).trans hg0.out)
      have HB1 := Lib.hid (below_then HB.out hb1)
      clear hb1
      generalize w0.alloc (.cells (arrN 1 32) 52) = w1 at *
      go_wp2_with first | (refine wpList_load_row rfl 52 _ rfl w0.heap.size rfl 52 _ _ _ hl.out Tryd.underlying52 rfl HI.out.1 ?_) | (refine wpList_store_row rfl 52 _ _ rfl w.heap.size (arrN 1 32) rfl rfl 52 _ hl2.out HI.out.1 HI.out.2.1 HI.out.2.2 ?_)
      exact bodyPost_ret (results_cell_row (fn := Tryd.f32) rfl _ _ w.heap.size 52 _ _ _ rfl (setRow_heap _ _ _ _ _ _ hl2.out) Tryd.underlying52 rfl HI.out.1) rfl ⟨by rw [arrN_end], below_setRow HB1.out (Nat.le_refl _) _⟩
end Go.Proofs.YtocpbkmflihcnaaDoor
