/- Sums, differences and products of 64 bits: when they fit (layer 5). No statement is proved here. -/
import Derived.Test.YtcpbdmgkeljkgaaGreatDoorProg
import Derived.RowKit
namespace Go.Proofs.YtcpbdmgkeljkgaaGreatDoor
open Go.RowKit

def in64 (n : Int) : Prop := -9223372036854775808 ≤ n ∧ n ≤ 9223372036854775807
instance (n : Int) : Decidable (in64 n) := by unfold in64; infer_instance
theorem wrap64_in {n : Int} (h : in64 n) : wrap64 n = n := by unfold wrap64 in64 at *; omega
theorem wrap64_range (n : Int) : in64 (wrap64 n) := by unfold wrap64 in64; omega
theorem plus_fits {a b : Int} (ha : in64 a) (hb : in64 b) : (decide (a < wrap64 (a + b)) == decide (0 < b)) = decide (in64 (a + b)) := by
  unfold wrap64 in64 at *
  by_cases h : -9223372036854775808 ≤ a + b ∧ a + b ≤ 9223372036854775807
  · rw [decide_eq_true h]
    have e : (a + b + 9223372036854775808) % 18446744073709551616 - 9223372036854775808 = a + b := by omega
    rw [e]
    by_cases h0 : 0 < b
    · rw [decide_eq_true h0, decide_eq_true (by omega)]; rfl
    · rw [decide_eq_false h0, decide_eq_false (by omega)]; rfl
  · rw [decide_eq_false h]
    by_cases h0 : 0 < b
    · rw [decide_eq_true h0, decide_eq_false (by omega)]; rfl
    · rw [decide_eq_false h0, decide_eq_true (by omega)]; rfl
theorem minus_fits {a b : Int} (ha : in64 a) (hb : in64 b) : (decide (wrap64 (a - b) < a) == decide (0 < b)) = decide (in64 (a - b)) := by
  unfold wrap64 in64 at *
  by_cases h : -9223372036854775808 ≤ a - b ∧ a - b ≤ 9223372036854775807
  · rw [decide_eq_true h]
    have e : (a - b + 9223372036854775808) % 18446744073709551616 - 9223372036854775808 = a - b := by omega
    rw [e]
    by_cases h0 : 0 < b
    · rw [decide_eq_true h0, decide_eq_true (by omega)]; rfl
    · rw [decide_eq_false h0, decide_eq_false (by omega)]; rfl
  · rw [decide_eq_false h]
    by_cases h0 : 0 < b
    · rw [decide_eq_true h0, decide_eq_false (by omega)]; rfl
    · rw [decide_eq_false h0, decide_eq_true (by omega)]; rfl
theorem tdiv_back {n b : Int} : n = n.tdiv b * b + n.tmod b := by
  have h := Int.tmod_def n b
  rw [Int.mul_comm (n.tdiv b) b]
  omega
theorem times_back {a b : Int} (hb : in64 b) (h0 : b ≠ 0) : (wrap64 (a * b)).tdiv b = a ↔ in64 (a * b) := by
  constructor
  · intro h
    have h2 := @tdiv_back (wrap64 (a * b)) b
    rw [h] at h2
    have hr : ((wrap64 (a * b)).tmod b).natAbs < b.natAbs := by
      rw [Int.natAbs_tmod]
      exact Nat.mod_lt _ (by omega)
    have hw : ∃ k : Int, wrap64 (a * b) = a * b + k * 18446744073709551616 := ⟨-((a * b + 9223372036854775808) / 18446744073709551616), by unfold wrap64; omega⟩
    obtain ⟨k, hk⟩ := hw
    have hz : (wrap64 (a * b)).tmod b = 0 := by
      generalize (wrap64 (a * b)).tmod b = r at *
      generalize wrap64 (a * b) = n at *
      generalize a * b = p at *
      have : r = k * 18446744073709551616 := by omega
      unfold in64 at hb
      omega
    rw [hz] at h2
    have := wrap64_range (a * b)
    rw [h2] at this
    simpa using this
  · intro h
    rw [wrap64_in h]
    exact Int.mul_tdiv_cancel a h0
def timesF (a b : Int) : Bool := if b = -1 then decide (a ≠ -9223372036854775808) else decide (b = 0) || decide ((wrap64 (a * b)).tdiv b = a)
theorem times_fits {a b : Int} (ha : in64 a) (hb : in64 b) : timesF a b = decide (in64 (a * b)) := by
  unfold timesF
  by_cases h1 : b = -1
  · subst h1
    rw [if_pos rfl]
    unfold in64 at ha hb
    by_cases h : a = -9223372036854775808
    · subst h; decide
    · rw [decide_eq_true h, decide_eq_true (show in64 (a * -1) by unfold in64; omega)]
  · rw [if_neg h1]
    by_cases h0 : b = 0
    · subst h0
      simp [in64]
    · rw [decide_eq_false h0, Bool.false_or]
      exact decide_eq_decide.2 (times_back hb h0)
theorem div_within {a b : Int} (ha : in64 a) (hb0 : b ≠ 0) (hm : ¬ (a = -9223372036854775808 ∧ b = -1)) : in64 (a.tdiv b) := by
  have h : (a.tdiv b).natAbs ≤ a.natAbs := by
    rw [Int.natAbs_tdiv]
    exact Nat.div_le_self _ _
  unfold in64 at *
  by_cases h1 : b = -1
  · subst h1
    rw [show a.tdiv (-1) = -a by rw [Int.tdiv_neg, Int.tdiv_one]]
    omega
  · by_cases h2 : a = -9223372036854775808
    · have h3 : (a.tdiv b).natAbs ≤ 9223372036854775808 / 1 := by omega
      by_cases h4 : b = 1
      · subst h4; rw [Int.tdiv_one]; omega
      · have h5 : (a.tdiv b).natAbs ≤ a.natAbs / 2 := by
          rw [Int.natAbs_tdiv]
          exact Nat.div_le_div_left (by omega) (by omega)
        omega
    · omega
theorem div_times_within {a b : Int} (ha : in64 a) : in64 (a.tdiv b * b) := by
  have h : (a.tdiv b * b).natAbs ≤ a.natAbs := by
    rw [Int.natAbs_mul, Int.natAbs_tdiv]
    exact Nat.div_mul_le_self _ _
  have h2 := @tdiv_back a b
  have h3 : (a.tmod b).natAbs ≤ a.natAbs := by
    rw [Int.natAbs_tmod]
    exact Nat.mod_le _ _
  have hs : 0 ≤ a → 0 ≤ a.tmod b := fun h => Int.tmod_nonneg b h
  have hs2 : a ≤ 0 → a.tmod b ≤ 0 := fun h => by
    have h6 := Int.tmod_nonneg b (show 0 ≤ -a by omega)
    rw [Int.neg_tmod] at h6
    omega
  generalize a.tdiv b * b = p at *
  generalize a.tmod b = r at *
  unfold in64 at *
  rcases Int.le_total 0 a with h | h
  · have := hs h; omega
  · have := hs2 h; omega
end Go.Proofs.YtcpbdmgkeljkgaaGreatDoor
