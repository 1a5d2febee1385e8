/- The program's own turns: eight at once by a table. No statement is proved here. -/
import Derived.Test.YtlpnhfceblbllaaDoorSPNib
namespace Go.Proofs.YtlpnhfceblbllaaDoor
open Go.RowKit
set_option maxRecDepth 100000

/-- The table of four turns, as it lies. -/
def Tab16 (w : World) : Prop := ∀ i, i < 16 → w.cell? ⟨1, i, none⟩ = some (.int .u32 (turnsN 4 i : Nat))
/-- Four turns by the table. -/
theorem four_step {r : Nat} (hr : r < 4294967296) : bits .xor .u32 ((r : Int) / 16) ((turnsN 4 (r % 16) : Nat) : Int) = ((turnsN 4 r : Nat) : Int) := by
  have q1 := turnsN_lt 4 (show r % 16 < 4294967296 by omega)
  have hS1 := xor32 (r / 16) (turnsN 4 (r % 16)) (by omega) q1
  rw [nib_step] at hS1
  exact hS1
set_option maxHeartbeats 2000000 in
theorem eight_any (r : Nat) (hr : r < 4294967296) (w : World) (ht : Tab16 w) :
    Calls Tryd.prog 64 #[.int .u32 (r : Int)] w fun e w' => e = .returned (.int .u32 (t8 r : Nat)) ∧ w = w' := by
  have HT := Lib.hid ht
  clear ht
  go_enter Tryd.func64, Tryd.ntmps64
  go_wp2
  go_loop [0, 3] (fun u i => ∃ (k x : Nat), k ≤ 2 ∧ i = .int .i64 k ∧ u = .int .u32 x ∧ x < 4294967296 ∧ Hid (x = turnsN (4 * k) r)) (fun _ i => 2 - (intOf i).toNat)
  case atStart => exact ⟨0, r, by omega, rfl, rfl, hr, rfl⟩
  case round =>
    obtain ⟨k, x, hk, rfl, rfl, hx, HS⟩ := hrel
    by_cases hlt : k < 2
    · have hA := and15 x hx
      have hF := four_step hx
      have hxl := turnsN_lt 4 hx
      obtain ⟨i, hi⟩ : ∃ i, i = x % 16 := ⟨_, rfl⟩
      have hi16 : i < 16 := by omega
      have c1 := HT.out i hi16
      rw [← hi] at hA hF
      clear hi
      have HN : Hid (turnsN 4 x = turnsN (4 * (k + 1)) r) := Lib.hid (by rw [HS, Nat.mul_add, Nat.mul_one, turnsN_add])
      generalize turnsN 4 i = y at *
      generalize turnsN 4 x = z at *
      go_wp2
      go_round
      case rel => exact ⟨k + 1, z, by omega, by go_num, rfl, hxl, HN⟩
      case measure => simp [intOf]; omega
    · have hk2 : k = 2 := by omega
      subst hk2
      go_wp2
      go_ret
      exact ⟨ret_int (by rw [HS, t8_def]), rfl⟩
set_option maxHeartbeats 2000000 in
theorem more_any (m : Nat) (hm2 : m < 4294967296) (a : Option Addr) (c n : Nat) (l : List Int) (w : World) (ht : Tab16 w) (ha : InB w a l) (hB : isB l) (hn : l.length = n) (hl : n ≤ 140737488351232) :
    Calls Tryd.prog 51 #[.int .i64 (m : Int), .slice a n c] w fun e w' => e = .returned (.int .i64 (moreN m (natL l) : Nat)) ∧ w = w' := by
  have HA := Lib.hid (And.intro ha (And.intro hB (And.intro hn ht)))
  clear ha hB hn ht
  have HX := Lib.hid (xorF m hm2)
  go_enter Tryd.func51, Tryd.ntmps51
  go_wp2
  go_loop [5, 13] (fun u i => ∃ k : Nat, k ≤ n ∧ i = .int .i64 k ∧ u = .int .u32 (runN m (l.take k) : Nat)) (fun _ i => n - (intOf i).toNat)
  case atStart => exact ⟨0, by omega, rfl, by rw [HX.out]; rfl⟩
  case round =>
    obtain ⟨k, hk, rfl, rfl⟩ := hrel
    by_cases hlt : k < n
    · obtain ⟨b, o, x, rfl, hx, x0⟩ := HA.out.1.one (i := k) (by rw [HA.out.2.2.1]; exact hlt)
      have hb := HA.out.2.1.at' hx
      have hr := runN_lt hm2 (HA.out.2.1.take k)
      have HR := Lib.hid (runN_next (s := m) hx)
      obtain ⟨r1, hr1⟩ : ∃ r1, r1 = runN m (l.take k) ^^^ x.toNat := ⟨_, rfl⟩
      have hr1l : r1 < 4294967296 := by rw [hr1]; exact Nat.xor_lt_two_pow (n := 32) hr (by omega)
      have hY := byte32 hb hr
      rw [← hr1] at hY
      have HE := Lib.hid (eight_any r1 hr1l w HA.out.2.2.2)
      have HF : Hid (runN m (l.take (k + 1)) = t8 r1) := Lib.hid (by rw [HR.out, ← hr1])
      have hr2l : t8 r1 < 4294967296 := t8_lt hr1l
      generalize t8 r1 = r2 at *
      generalize runN m (l.take k) = r at *
      clear hx hr1 HR
      go_wp2_with (go_at_call 64; refine HE.out.mono ?_; rintro e w' ⟨rfl, rfl⟩)
      go_round
      case rel => exact ⟨k + 1, by omega, by go_num, by rw [HF.out]⟩
      case measure => simp [intOf]; omega
    · have hkn : k = n := by omega
      subst hkn
      have hr := runN_lt hm2 (HA.out.2.1.take k)
      have HY := Lib.hid (wrapF (runN m (l.take k)) hr)
      have HT := Lib.hid (show l.take k = l from List.take_of_length_le (by rw [HA.out.2.2.1]; omega))
      clear hr
      go_wp2
      rw [HY.out, HT.out]
      go_ret
      exact ⟨rfl, rfl⟩
theorem more0_any (a : Option Addr) (c n : Nat) (l : List Int) (w : World) (ht : Tab16 w) (ha : InB w a l) (hB : isB l) (hn : l.length = n) (hl : n ≤ 140737488351232) :
    Calls Tryd.prog 29 #[.slice a n c] w fun e w' => e = .returned (.int .i64 (moreP 0 l)) ∧ w = w' := by
  have HM := Lib.hid (more_any 0 (by omega) a c n l w ht ha hB hn hl)
  have HP := Lib.hid (show ((moreN 0 (natL l) : Nat) : Int) = moreP 0 l from rfl)
  rw [HP.out] at HM
  clear ht ha hB hn HP
  go_enter Tryd.func29, Tryd.ntmps29
  go_wp2_with (go_at_call 51; refine HM.out.mono ?_; rintro e w' ⟨rfl, rfl⟩)
  go_ret
  exact ⟨rfl, rfl⟩
end Go.Proofs.YtlpnhfceblbllaaDoor
