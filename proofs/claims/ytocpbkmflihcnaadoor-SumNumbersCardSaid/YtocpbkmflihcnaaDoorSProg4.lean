/- The program's own Join: its contract. No statement is proved here. -/
import Derived.Test.YtocpbkmflihcnaaDoorSProg3
import Derived.Deep.WholeRow
namespace Go.Proofs.YtocpbkmflihcnaaDoor
open Go.RowKit
set_option maxRecDepth 100000

/-- Where the turns lie in a round. -/
structure TurnsAt (g m : Nat) (w wr : World) : Prop where
  row : wr.heap[g]? = some (.cells (arrN m 32) 52)
  own : w.heap.size ≤ g
  below : Below w.heap.size w wr
theorem TurnsAt.then_ {g m : Nat} {w wr w' : World} (h : TurnsAt g m w wr) (hb : Below wr.heap.size wr w') : TurnsAt g m w w' :=
  ⟨(hb.block _ (Array.getElem?_eq_some_iff.1 h.row).1).trans h.row, h.own, h.below.trans (hb.mono h.below.size)⟩
theorem TurnsAt.set {g m m' : Nat} {w wr : World} (h : TurnsAt g m w wr) : TurnsAt g m' w (wr.setRow g (arrN m' 32)) :=
  ⟨setRow_heap _ _ _ _ _ _ h.row, h.own, below_setRow h.below h.own _⟩
theorem TurnsAt.new {w wr : World} (m : Nat) (h : Below w.heap.size w wr) : TurnsAt wr.heap.size m w (wr.alloc (.cells (arrN m 32) 52)) :=
  ⟨heap_alloc_new wr _, h.size, h.alloc h.size _⟩
theorem arr_full (m m' : Nat) : (arrN m 32).size = (arrN m' 32).size := by rw [arrN_size _ (Nat.le_refl _), arrN_size _ (Nat.le_refl _)]
theorem arr_zeros : (#[.int .u32 0, .int .u32 0, .int .u32 0, .int .u32 0, .int .u32 0, .int .u32 0, .int .u32 0, .int .u32 0, .int .u32 0, .int .u32 0, .int .u32 0, .int .u32 0, .int .u32 0, .int .u32 0, .int .u32 0, .int .u32 0, .int .u32 0, .int .u32 0, .int .u32 0, .int .u32 0, .int .u32 0, .int .u32 0, .int .u32 0, .int .u32 0, .int .u32 0, .int .u32 0, .int .u32 0, .int .u32 0, .int .u32 0, .int .u32 0, .int .u32 0, .int .u32 0] : Array Value) = arrN 0 0 := (arrN_zero 0).symm
theorem i64_and1 (n : Nat) : bits .and .i64 (n : Int) 1 = ((n % 2 : Nat) : Int) := by
  have h1 : (BitVec.ofInt 64 1).toNat = 2 ^ 1 - 1 := by decide
  have key : (BitVec.ofInt 64 (n : Int) &&& BitVec.ofInt 64 1).toNat = ((n : Int) % ((2 ^ 64 : Nat) : Int)).toNat % 2 ^ 1 := by
    rw [BitVec.toNat_and, BitVec.toNat_ofInt, h1, Nat.and_two_pow_sub_one_eq_mod]
  show IntKind.i64.wrap ((BitVec.ofInt 64 (n : Int) &&& BitVec.ofInt 64 1).toNat : Nat) = _
  rw [key, IntKind.wrap_i64]
  omega
set_option maxHeartbeats 4000000 in
theorem past_any (X M : Nat) (hX : X < 4294967296) (hM : M ≤ 9223372036854775807) (w : World) (ht : Tabs w) :
    Calls Tryd.prog 28 #[.int .u32 (X : Int), .int .i64 (M : Int)] w fun e w' => e = .returned (.int .u32 (t8N M X : Nat)) ∧ Below w.heap.size w w' := by
  have HC := Lib.hid ht
  have HE := Lib.hid (eightTurns_any w ht)
  clear ht
  rw [← arrN_end] at HE
  have HI := Lib.hid arr_info
  have HZ := Lib.hid (fun m : Nat => show (arrN 0 0).size = (arrN m 32).size by rw [arrN_size _ (Nat.le_refl _), arrN_size _ (Nat.zero_le _)])
  have HL := Lib.hid arr_full
  have HO := Lib.hid (fun m : Nat => arrN_cells m 32)
  go_enter Tryd.func28, Tryd.ntmps28
  go_wp2_with first | (go_at_call 32; refine HE.out.mono ?_; rintro e w1 ⟨rfl, hb1⟩; have HB1 := Lib.hid hb1; clear hb1) | (rw [arr_zeros]; refine wpList_store_row rfl 52 _ _ rfl w1.heap.size (arrN 1 32) rfl rfl 52 _ (heap_alloc_new w1 _) (HI.out _) (HZ.out _) (HO.out _) ?_; rw [World.setRow_alloc_new])
  simp only [Act.put]
  have HT1 : Hid (TurnsAt w1.heap.size (2 ^ 0) w (w1.alloc (.cells (arrN 1 32) 52))) := Lib.hid (TurnsAt.new _ HB1.out)
  generalize w1.heap.size = g1 at *
  generalize w1.alloc (.cells (arrN 1 32) 52) = w2 at *
  clear HB1
  go_loopw [0, 1, 5] (fun x m p wr => ∃ (k q r g : Nat), m = .int .i64 (q : Int) ∧ q ≤ M ∧ x = .int .u32 (r : Int) ∧ r < 4294967296 ∧ p = .pointer (some ⟨g, 0, none⟩) ∧ Hid (q = M / 2 ^ k ∧ r = t8N (M % 2 ^ k) X ∧ TurnsAt g (2 ^ k) w wr)) (fun _ m _ _ => (intOf m).toNat)
  case atStart => exact ⟨0, M, X, g1, rfl, Nat.le_refl _, rfl, hX, rfl, Lib.hid ⟨by simp, by simp [Nat.mod_one, t8N], HT1.out⟩⟩
  case round =>
    clear HT1
    obtain ⟨k, q, r, g, rfl, hq, rfl, hr, rfl, HK⟩ := hrel
    obtain ⟨wo, hwo⟩ : ∃ wo, wo = wr := ⟨_, rfl⟩
    subst hwo
    by_cases h0 : 0 < q
    · have ha := i64_and1 q
      obtain ⟨b, hb⟩ : ∃ b, b = q % 2 := ⟨_, rfl⟩
      rw [← hb] at ha
      have K1 := Lib.hid HK.2.2
      have HD := Lib.hid (fun wx (h : Tabs wx) => doubled_any (2 ^ k) wx h)
      rw [← arrN_end, ← arrN_end, ← Nat.mul_two, ← Nat.pow_succ] at HD
      by_cases hp : b = 1
      · subst hp
        have HT := Lib.hid (of_any (2 ^ k) r hr wo (HC.out.then_ K1.out.below))
        rw [← arrN_end] at HT
        have HR : Hid (t8N (2 ^ k) r = t8N (M % 2 ^ (k + 1)) X) := Lib.hid (by rw [HK.2.1, square_odd (by rw [← HK.1]; exact hb.symm)])
        have hr2 := t8N_lt (2 ^ k) hr
        generalize t8N (2 ^ k) r = r2 at *
        clear hb
        go_wp2_with first | (go_at_call 33; refine HT.out.mono ?_; rintro e w3 ⟨rfl, hb3⟩; have K3 := Lib.hid (K1.out.then_ hb3); clear hb3) | (go_at_call 34; refine (HD.out w3 (HC.out.then_ K3.out.below)).mono ?_; rintro e w4 ⟨rfl, hb4⟩; have K4 := Lib.hid (K3.out.then_ hb4); clear hb4) | (refine wpList_load_row rfl 52 _ rfl g rfl 52 _ _ _ K1.out.row Tryd.underlying52 rfl (HI.out _) ?_) | (refine wpList_load_row rfl 52 _ rfl g rfl 52 _ _ _ K3.out.row Tryd.underlying52 rfl (HI.out _) ?_) | (refine wpList_load_row rfl 52 _ rfl g rfl 52 _ _ _ K5.out.row Tryd.underlying52 rfl (HI.out _) ?_) | (refine wpList_store_row rfl 52 _ _ rfl g (arrN (2 ^ (k + 1)) 32) rfl rfl 52 _ K4.out.row (HI.out _) (HL.out _ _) (HO.out _) ?_; have K5 := Lib.hid (K4.out.set (m' := 2 ^ (k + 1))); generalize w4.setRow g (arrN (2 ^ (k + 1)) 32) = w5 at *) | (rw [arr_zeros]; refine wpList_store_row rfl 52 _ _ rfl w5.heap.size (arrN (2 ^ (k + 1)) 32) rfl rfl 52 _ (heap_alloc_new w5 _) (HI.out _) (HZ.out _) (HO.out _) ?_; rw [World.setRow_alloc_new]; have K6 := Lib.hid (TurnsAt.new (2 ^ (k + 1)) K5.out.below); generalize w5.alloc (.cells (arrN (2 ^ (k + 1)) 32) 52) = w6 at *; generalize w5.heap.size = g6 at *)
        go_roundw
        case rel => exact ⟨k + 1, q / 2, r2, g6, by go_num, by omega, rfl, hr2, rfl, Lib.hid ⟨by rw [HK.1, square_half], HR.out, K6.out⟩⟩
        case measure => simp [intOf]; omega
      · have hp0 : b = 0 := by omega
        subst hp0
        have HR : Hid (r = t8N (M % 2 ^ (k + 1)) X) := Lib.hid (by rw [HK.2.1, square_even (by rw [← HK.1]; omega)])
        clear hb hp
        go_wp2_with first | (go_at_call 34; refine (HD.out wo (HC.out.then_ K1.out.below)).mono ?_; rintro e w4 ⟨rfl, hb4⟩; have K4 := Lib.hid (K1.out.then_ hb4); clear hb4) | (refine wpList_load_row rfl 52 _ rfl g rfl 52 _ _ _ K1.out.row Tryd.underlying52 rfl (HI.out _) ?_) | (refine wpList_load_row rfl 52 _ rfl g rfl 52 _ _ _ K5.out.row Tryd.underlying52 rfl (HI.out _) ?_) | (refine wpList_store_row rfl 52 _ _ rfl g (arrN (2 ^ (k + 1)) 32) rfl rfl 52 _ K4.out.row (HI.out _) (HL.out _ _) (HO.out _) ?_; have K5 := Lib.hid (K4.out.set (m' := 2 ^ (k + 1))); generalize w4.setRow g (arrN (2 ^ (k + 1)) 32) = w5 at *) | (rw [arr_zeros]; refine wpList_store_row rfl 52 _ _ rfl w5.heap.size (arrN (2 ^ (k + 1)) 32) rfl rfl 52 _ (heap_alloc_new w5 _) (HI.out _) (HZ.out _) (HO.out _) ?_; rw [World.setRow_alloc_new]; have K6 := Lib.hid (TurnsAt.new (2 ^ (k + 1)) K5.out.below); generalize w5.alloc (.cells (arrN (2 ^ (k + 1)) 32) 52) = w6 at *; generalize w5.heap.size = g6 at *)
        go_roundw
        case rel => exact ⟨k + 1, q / 2, r, g6, by go_num, by omega, rfl, hr, rfl, Lib.hid ⟨by rw [HK.1, square_half], HR.out, K6.out⟩⟩
        case measure => simp [intOf]; omega
    · have hq0 : q = 0 := by omega
      have HV := Lib.hid (show r = t8N M X by rw [HK.2.1, square_end (by rw [← HK.1, hq0])])
      have hb := HK.2.2.below
      subst hq0
      go_wp2_with fail
      go_ret
      exact ⟨ret_int (by rw [HV.out]), hb⟩
end Go.Proofs.YtocpbkmflihcnaaDoor
