/- A number's lowest bit taken away: plain words. No statement is proved here. -/
import Derived.Test.YtlpnhfceblbllaaDoorSTimes
import Derived.Lib.TrailingZeros
namespace Go.Proofs.YtlpnhfceblbllaaDoor

theorem low_core (k m : Nat) : (2 ^ k * (2 * m + 1)) &&& (2 ^ k * (2 * m + 1) - 1) = 2 ^ k * (2 * m) := by
  have hp := Nat.two_pow_pos k
  have e2 : 2 ^ k * (2 * m + 1) - 1 = 2 ^ k * (2 * m) + (2 ^ k - 1) := by rw [Nat.mul_add, Nat.mul_one]; omega
  rw [e2]
  have e3 := Nat.two_pow_add_eq_or_of_lt (i := k) (show 2 ^ k - 1 < 2 ^ k by omega) (2 * m)
  rw [e3]
  apply Nat.eq_of_testBit_eq
  intro i
  rw [Nat.testBit_and, Nat.testBit_or, Nat.testBit_two_pow_mul, Nat.testBit_two_pow_mul, Nat.testBit_two_pow_sub_one]
  by_cases hik : k ≤ i
  · obtain ⟨j, rfl⟩ : ∃ j, i = k + j := ⟨i - k, by omega⟩
    have e : k + j - k = j := by omega
    simp only [hik, decide_true, Bool.true_and, e]
    have hn : decide (k + j < k) = false := by simp
    rw [hn, Bool.or_false]
    cases j with
    | zero => simp [Nat.testBit_zero]
    | succ j =>
      rw [Nat.testBit_succ, Nat.testBit_succ]
      have d1 : (2 * m + 1) / 2 = m := by omega
      have d2 : 2 * m / 2 = m := by omega
      rw [d1, d2, Bool.and_self]
  · simp [hik]
theorem low_xor (k m : Nat) : 2 ^ k * (2 * m) ^^^ 2 ^ k = 2 ^ k * (2 * m + 1) := by
  apply Nat.eq_of_testBit_eq
  intro i
  rw [Nat.testBit_xor, Nat.testBit_two_pow_mul, Nat.testBit_two_pow_mul, Nat.testBit_two_pow]
  by_cases hik : k ≤ i
  · obtain ⟨j, rfl⟩ : ∃ j, i = k + j := ⟨i - k, by omega⟩
    have e : k + j - k = j := by omega
    simp only [hik, decide_true, Bool.true_and, e]
    cases j with
    | zero => simp [Nat.testBit_zero]
    | succ j =>
      rw [Nat.testBit_succ, Nat.testBit_succ]
      have d1 : (2 * m + 1) / 2 = m := by omega
      have d2 : 2 * m / 2 = m := by omega
      have hn : decide (k = k + (j + 1)) = false := by simp
      rw [d1, d2, hn, Bool.xor_false]
  · have hn : decide (k = i) = false := by simp; omega
    simp [hik, hn]
/-- The lowest bit of a number above 0. -/
theorem low_bit {r : Nat} (h0 : r ≠ 0) (hr : r < 4294967296) : Lib.ctz 32 r < 32 ∧ (r &&& (r - 1)) < r ∧ (r &&& (r - 1)) ^^^ 2 ^ Lib.ctz 32 r = r := by
  obtain ⟨m, hm, hk⟩ := Lib.ctzFrom_spec 32 r (by omega) hr
  have e : Lib.ctz 32 r = Lib.ctzFrom 32 r := by simp [Lib.ctz, h0]
  rw [e]
  generalize Lib.ctzFrom 32 r = k at *
  subst hm
  have hp := Nat.two_pow_pos k
  rw [low_core, low_xor]
  refine ⟨hk, ?_, rfl⟩
  rw [Nat.mul_add]
  omega
/-- What turns make of a number, by its lowest bit. -/
theorem t8N_low (n : Nat) {r : Nat} (h0 : r ≠ 0) (hr : r < 4294967296) : t8N n (2 ^ Lib.ctz 32 r) ^^^ t8N n (r &&& (r - 1)) = t8N n r := by
  conv => rhs; rw [← (low_bit h0 hr).2.2, t8N_xor]
  rw [Nat.xor_comm]
end Go.Proofs.YtlpnhfceblbllaaDoor
