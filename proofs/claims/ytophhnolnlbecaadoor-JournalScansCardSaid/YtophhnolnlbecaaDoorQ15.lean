/- A number's lowest bit taken away: plain words. Four turns at once, by a table of sixteen numbers: plain words and a program that goes by it (a trial of our own; the landed program may go otherwise). The program's own turns: eight at once by a table. No statement is proved here. -/
import Derived.Test.YtophhnolnlbecaaDoorQ2
import Derived.Lib.TrailingZeros
import Derived.Test.YtophhnolnlbecaaDoorQ4
import Derived.Lib.LaidTab
namespace Go.Proofs.YtophhnolnlbecaaDoor

theorem low_core (k m : Nat) : (2 ^ k * (2 * m + 1)) &&& (2 ^ k * (2 * m + 1) - 1) = 2 ^ k * (2 * m) := by
  have hp := Nat.two_pow_pos k
  have e2 : 2 ^ k * (2 * m + 1) - 1 = 2 ^ k * (2 * m) + (2 ^ k - 1) := by rw [Nat.mul_add, Nat.mul_one]; omega
  rw [e2]
  have e3 := Nat.two_pow_add_eq_or_of_lt (i := k) (show 2 ^ k - 1 < 2 ^ k by omega) (2 * m)
  rw [e3]
  apply Nat.eq_of_testBit_eq
  intro i
  rw [Nat.testBit_and, Nat.testBit_or, Nat.testBit_two_pow_mul, Nat.testBit_two_pow_mul, Nat.testBit_two_pow_sub_one]
  by_cases hik : k ≤ i
  · obtain ⟨j, rfl⟩ : ∃ j, i = k + j := ⟨i - k, by omega⟩
    have e : k + j - k = j := by omega
    simp only [hik, decide_true, Bool.true_and, e]
    have hn : decide (k + j < k) = false := by simp
    rw [hn, Bool.or_false]
    cases j with
    | zero => simp [Nat.testBit_zero]
    | succ j =>
      rw [Nat.testBit_succ, Nat.testBit_succ]
      have d1 : (2 * m + 1) / 2 = m := by omega
      have d2 : 2 * m / 2 = m := by omega
      rw [d1, d2, Bool.and_self]
  · simp [hik]
theorem low_xor (k m : Nat) : 2 ^ k * (2 * m) ^^^ 2 ^ k = 2 ^ k * (2 * m + 1) := by
  apply Nat.eq_of_testBit_eq
  intro i
  rw [Nat.testBit_xor, Nat.testBit_two_pow_mul, Nat.testBit_two_pow_mul, Nat.testBit_two_pow]
  by_cases hik : k ≤ i
  · obtain ⟨j, rfl⟩ : ∃ j, i = k + j := ⟨i - k, by omega⟩
    have e : k + j - k = j := by omega
    simp only [hik, decide_true, Bool.true_and, e]
    cases j with
    | zero => simp [Nat.testBit_zero]
    | succ j =>
      rw [Nat.testBit_succ, Nat.testBit_succ]
      have d1 : (2 * m + 1) / 2 = m := by omega
      have d2 : 2 * m / 2 = m := by omega
      have hn : decide (k = k + (j + 1)) = false := by simp
      rw [d1, d2, hn, Bool.xor_false]
  · have hn : decide (k = i) = false := by simp; omega
    simp [hik, hn]
/-- The lowest bit of a number above 0. -/
theorem low_bit {r : Nat} (h0 : r ≠ 0) (hr : r < 4294967296) : Lib.ctz 32 r < 32 ∧ (r &&& (r - 1)) < r ∧ (r &&& (r - 1)) ^^^ 2 ^ Lib.ctz 32 r = r := by
  obtain ⟨m, hm, hk⟩ := Lib.ctzFrom_spec 32 r (by omega) hr
  have e : Lib.ctz 32 r = Lib.ctzFrom 32 r := by simp [Lib.ctz, h0]
  rw [e]
  generalize Lib.ctzFrom 32 r = k at *
  subst hm
  have hp := Nat.two_pow_pos k
  rw [low_core, low_xor]
  refine ⟨hk, ?_, rfl⟩
  rw [Nat.mul_add]
  omega
/-- What turns make of a number, by its lowest bit. -/
theorem t8N_low (n : Nat) {r : Nat} (h0 : r ≠ 0) (hr : r < 4294967296) : t8N n (2 ^ Lib.ctz 32 r) ^^^ t8N n (r &&& (r - 1)) = t8N n r := by
  conv => rhs; rw [← (low_bit h0 hr).2.2, t8N_xor]
  rw [Nat.xor_comm]
end Go.Proofs.YtophhnolnlbecaaDoor
namespace Go.Proofs.YtophhnolnlbecaaDoor
open Go.RowKit
set_option maxRecDepth 100000

/-- What four turns make of each number below sixteen. -/
def nibs : List Nat := [0, 498536548, 997073096, 651767980, 1994146192, 1802195444, 1303535960, 1342533948, 3988292384, 4027552580, 3604390888, 3412177804, 2607071920, 2262029012, 2685067896, 3183342108]
theorem nibs_all : ∀ i, i < 16 → nibs[i]? = some (turnsN 4 i) := by
  intro i hi
  have h : (List.range 16).all (fun i => nibs[i]? == some (turnsN 4 i)) = true := by decide +kernel
  have := List.all_eq_true.1 h i (List.mem_range.2 hi)
  simpa using this
theorem four_up (n : Nat) : turnsN 4 (16 * n) = n := by
  have e : 16 * n = 2 * (2 * (2 * (2 * n))) := by omega
  rw [e]
  simp only [turnsN, turn_double]
theorem split16 (r : Nat) : r % 16 ^^^ 16 * (r / 16) = r := by
  have h : r = 2 ^ 4 * (r / 16) + r % 16 := by omega
  have h2 := Nat.two_pow_add_eq_or_of_lt (i := 4) (show r % 16 < 2 ^ 4 by omega) (r / 16)
  have h3 : 2 ^ 4 * (r / 16) ||| r % 16 = 2 ^ 4 * (r / 16) ^^^ r % 16 := by
    apply Nat.eq_of_testBit_eq
    intro i
    rw [Nat.testBit_or, Nat.testBit_xor]
    by_cases hi : i < 4
    · rw [Nat.testBit_two_pow_mul]; simp [show ¬ 4 ≤ i by omega]
    · have : (r % 16).testBit i = false := Nat.testBit_lt_two_pow (Nat.lt_of_lt_of_le (show r % 16 < 2 ^ 4 by omega) (Nat.pow_le_pow_right (by decide) (by omega)))
      rw [this]; simp
  rw [Nat.xor_comm]
  have e : 16 * (r / 16) = 2 ^ 4 * (r / 16) := rfl
  rw [e, ← h3, ← h2, ← h]
theorem nib_step (r : Nat) : r / 16 ^^^ turnsN 4 (r % 16) = turnsN 4 r := by
  conv => rhs; rw [← split16 r, turnsN_xor, four_up]
  rw [Nat.xor_comm]
theorem eight_nibs (r : Nat) : turnsN 4 (turnsN 4 r) = t8 r := by rw [← turnsN_add, t8_def]
theorem and15 (r : Nat) (hr : r < 4294967296) : bits .and .u32 (r : Int) 15 = ((r % 16 : Nat) : Int) := by
  have := u32_and (r : Int) 15 (by omega) (by omega) (by omega) (by omega)
  rw [this]
  have h := Nat.and_two_pow_sub_one_eq_mod r 4
  simpa using congrArg Int.ofNat h
end Go.Proofs.YtophhnolnlbecaaDoor
namespace Go.Proofs.YtophhnolnlbecaaDoor
open Go.RowKit
set_option maxRecDepth 100000

/-- The table of four turns, as it lies. -/
def Tab16 (w : World) : Prop := ∀ i, i < 16 → w.cell? ⟨1, i, none⟩ = some (.int .u32 (turnsN 4 i : Nat))
/-- Four turns by the table. -/
theorem four_step {r : Nat} (hr : r < 4294967296) : bits .xor .u32 ((r : Int) / 16) ((turnsN 4 (r % 16) : Nat) : Int) = ((turnsN 4 r : Nat) : Int) := by
  have q1 := turnsN_lt 4 (show r % 16 < 4294967296 by omega)
  have hS1 := xor32 (r / 16) (turnsN 4 (r % 16)) (by omega) q1
  rw [nib_step] at hS1
  exact hS1
set_option maxHeartbeats 2000000 in
theorem eight_any (r : Nat) (hr : r < 4294967296) (w : World) (ht : Tab16 w) :
    Calls Tryd.prog 78 #[.int .u32 (r : Int)] w fun e w' => e = .returned (.int .u32 (t8 r : Nat)) ∧ w = w' := by
  have HT := Lib.hid ht
  clear ht
  go_enter Tryd.func78, Tryd.ntmps78
  go_wp2
  go_loop [0, 3] (fun u i => ∃ (k x : Nat), k ≤ 2 ∧ i = .int .i64 k ∧ u = .int .u32 x ∧ x < 4294967296 ∧ Hid (x = turnsN (4 * k) r)) (fun _ i => 2 - (intOf i).toNat)
  case atStart => exact ⟨0, r, by omega, rfl, rfl, hr, rfl⟩
  case round =>
    obtain ⟨k, x, hk, rfl, rfl, hx, HS⟩ := hrel
    by_cases hlt : k < 2
    · have hA := and15 x hx
      have hF := four_step hx
      have hxl := turnsN_lt 4 hx
      obtain ⟨i, hi⟩ : ∃ i, i = x % 16 := ⟨_, rfl⟩
      have hi16 : i < 16 := by omega
      have c1 := HT.out i hi16
      rw [← hi] at hA hF
      clear hi
      have HN : Hid (turnsN 4 x = turnsN (4 * (k + 1)) r) := Lib.hid (by rw [HS, Nat.mul_add, Nat.mul_one, turnsN_add])
      generalize turnsN 4 i = y at *
      generalize turnsN 4 x = z at *
      go_wp2
      go_round
      case rel => exact ⟨k + 1, z, by omega, by go_num, rfl, hxl, HN⟩
      case measure => simp [intOf]; omega
    · have hk2 : k = 2 := by omega
      subst hk2
      go_wp2
      go_ret
      exact ⟨ret_int (by rw [HS, t8_def]), rfl⟩
theorem isSum_any (s : Int) (w : World) : Calls Tryd.prog 62 #[.int .i64 s] w fun e w' => e = .returned (.bool (mayB s)) ∧ w = w' := by
  by_cases h1 : 0 ≤ s
  · by_cases h2 : s ≤ 4294967295
    · have hb : mayB s = true := decide_eq_true ⟨h1, h2⟩
      rw [hb]
      clear hb
      go_enter Tryd.func62, Tryd.ntmps62
      go_wp2
      go_ret
      exact ⟨rfl, rfl⟩
    · have hb : mayB s = false := decide_eq_false (by omega)
      rw [hb]
      clear hb
      go_enter Tryd.func62, Tryd.ntmps62
      go_wp2
      go_ret
      exact ⟨rfl, rfl⟩
  · have hb : mayB s = false := decide_eq_false (by omega)
    rw [hb]
    clear hb
    go_enter Tryd.func62, Tryd.ntmps62
    go_wp2
    go_ret
    exact ⟨rfl, rfl⟩
set_option maxHeartbeats 2000000 in
theorem more_any (m : Nat) (hm2 : m < 4294967296) (a : Option Addr) (c n : Nat) (l : List Int) (w : World) (ht : Tab16 w) (ha : InB w a l) (hB : isB l) (hn : l.length = n) (hl : n ≤ 140737488351232) :
    Calls Tryd.prog 63 #[.int .i64 (m : Int), .slice a n c] w fun e w' => e = .returned (.int .i64 (moreN m (natL l) : Nat)) ∧ w = w' := by
  have HA := Lib.hid (And.intro ha (And.intro hB (And.intro hn ht)))
  clear ha hB hn ht
  have HX := Lib.hid (xorF m hm2)
  go_enter Tryd.func63, Tryd.ntmps63
  go_wp2
  go_loop [5, 13] (fun u i => ∃ k : Nat, k ≤ n ∧ i = .int .i64 k ∧ u = .int .u32 (runN m (l.take k) : Nat)) (fun _ i => n - (intOf i).toNat)
  case atStart => exact ⟨0, by omega, rfl, by rw [HX.out]; rfl⟩
  case round =>
    obtain ⟨k, hk, rfl, rfl⟩ := hrel
    by_cases hlt : k < n
    · obtain ⟨b, o, x, rfl, hx, x0⟩ := HA.out.1.one (i := k) (by rw [HA.out.2.2.1]; exact hlt)
      have hb := HA.out.2.1.at' hx
      have hr := runN_lt hm2 (HA.out.2.1.take k)
      have HR := Lib.hid (runN_next (s := m) hx)
      obtain ⟨r1, hr1⟩ : ∃ r1, r1 = runN m (l.take k) ^^^ x.toNat := ⟨_, rfl⟩
      have hr1l : r1 < 4294967296 := by rw [hr1]; exact Nat.xor_lt_two_pow (n := 32) hr (by omega)
      have hY := byte32 hb hr
      rw [← hr1] at hY
      have HE := Lib.hid (eight_any r1 hr1l w HA.out.2.2.2)
      have HF : Hid (runN m (l.take (k + 1)) = t8 r1) := Lib.hid (by rw [HR.out, ← hr1])
      have hr2l : t8 r1 < 4294967296 := t8_lt hr1l
      generalize t8 r1 = r2 at *
      generalize runN m (l.take k) = r at *
      clear hx hr1 HR
      go_wp2_with (go_at_call 78; refine HE.out.mono ?_; rintro e w' ⟨rfl, rfl⟩)
      go_round
      case rel => exact ⟨k + 1, by omega, by go_num, by rw [HF.out]⟩
      case measure => simp [intOf]; omega
    · have hkn : k = n := by omega
      subst hkn
      have hr := runN_lt hm2 (HA.out.2.1.take k)
      have HY := Lib.hid (wrapF (runN m (l.take k)) hr)
      have HT := Lib.hid (show l.take k = l from List.take_of_length_le (by rw [HA.out.2.2.1]; omega))
      clear hr
      go_wp2
      rw [HY.out, HT.out]
      go_ret
      exact ⟨rfl, rfl⟩
theorem more0_any (a : Option Addr) (c n : Nat) (l : List Int) (w : World) (ht : Tab16 w) (ha : InB w a l) (hB : isB l) (hn : l.length = n) (hl : n ≤ 140737488351232) :
    Calls Tryd.prog 37 #[.slice a n c] w fun e w' => e = .returned (.int .i64 (moreP 0 l)) ∧ w = w' := by
  have HM := Lib.hid (more_any 0 (by omega) a c n l w ht ha hB hn hl)
  have HP := Lib.hid (show ((moreN 0 (natL l) : Nat) : Int) = moreP 0 l from rfl)
  rw [HP.out] at HM
  clear ht ha hB hn HP
  go_enter Tryd.func37, Tryd.ntmps37
  go_wp2_with (go_at_call 63; refine HM.out.mono ?_; rintro e w' ⟨rfl, rfl⟩)
  go_ret
  exact ⟨rfl, rfl⟩
theorem moreS_any (s : Int) (a : Option Addr) (c n : Nat) (l : List Int) (w : World) (ht : Tab16 w) (ha : InB w a l) (hB : isB l) (hn : l.length = n) (hl : n ≤ 140737488351232) :
    Calls Tryd.prog 36 #[.int .i64 s, .slice a n c] w fun e w' => e = .returned (.tuple #[.int .i64 (moreP s l), .int .i64 (moreE s)]) ∧ w = w' := by
  have HM : Hid (∀ w : World, Calls Tryd.prog 62 #[.int .i64 s] w fun e w' => e = .returned (.bool (mayB s)) ∧ w = w') := Lib.hid (isSum_any s)
  have HA := Lib.hid (And.intro ha (And.intro hB (And.intro hn ht)))
  unfold moreP moreE
  clear ha hB hn ht
  cases hm : mayB s
  · rw [hm] at HM
    clear hm
    go_enter Tryd.func36, Tryd.ntmps36
    go_wp2_with (go_at_call 62; refine (HM.out _).mono ?_; rintro e w' ⟨rfl, rfl⟩)
    go_ret2
    exact ⟨rfl, rfl⟩
  · have hs : 0 ≤ s ∧ s ≤ 4294967295 := of_decide_eq_true hm
    obtain ⟨m, rfl⟩ := Int.eq_ofNat_of_zero_le hs.1
    have hm2 : m < 4294967296 := by omega
    rw [hm] at HM
    clear hm hs
    have HX := Lib.hid (more_any m hm2 a c n l w HA.out.2.2.2 HA.out.1 HA.out.2.1 HA.out.2.2.1 hl)
    go_enter Tryd.func36, Tryd.ntmps36
    go_wp2_with first | (go_at_call 62; refine (HM.out _).mono ?_; rintro e w' ⟨rfl, rfl⟩) | (go_at_call 63; refine HX.out.mono ?_; rintro e w' ⟨rfl, rfl⟩)
    go_ret2
    exact ⟨rfl, rfl⟩
end Go.Proofs.YtophhnolnlbecaaDoor
