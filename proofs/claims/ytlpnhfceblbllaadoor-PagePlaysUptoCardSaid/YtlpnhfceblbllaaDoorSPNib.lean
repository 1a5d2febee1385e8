/- Four turns at once, by a table of sixteen numbers: plain words and a program that goes by it (a trial of our own; the landed program may go otherwise). No statement is proved here. -/
import Derived.Test.YtlpnhfceblbllaaDoorSRef
import Derived.Test.YtlpnhfceblbllaaDoorSRead
import Derived.Lib.LaidTab
import Derived.Test.YtlpnhfceblbllaaDoorSLow
namespace Go.Proofs.YtlpnhfceblbllaaDoor
open Go.RowKit
set_option maxRecDepth 100000

/-- What four turns make of each number below sixteen. -/
def nibs : List Nat := [0, 498536548, 997073096, 651767980, 1994146192, 1802195444, 1303535960, 1342533948, 3988292384, 4027552580, 3604390888, 3412177804, 2607071920, 2262029012, 2685067896, 3183342108]
theorem nibs_all : ∀ i, i < 16 → nibs[i]? = some (turnsN 4 i) := by
  intro i hi
  have h : (List.range 16).all (fun i => nibs[i]? == some (turnsN 4 i)) = true := by decide +kernel
  have := List.all_eq_true.1 h i (List.mem_range.2 hi)
  simpa using this
theorem four_up (n : Nat) : turnsN 4 (16 * n) = n := by
  have e : 16 * n = 2 * (2 * (2 * (2 * n))) := by omega
  rw [e]
  simp only [turnsN, turn_double]
theorem split16 (r : Nat) : r % 16 ^^^ 16 * (r / 16) = r := by
  have h : r = 2 ^ 4 * (r / 16) + r % 16 := by omega
  have h2 := Nat.two_pow_add_eq_or_of_lt (i := 4) (show r % 16 < 2 ^ 4 by omega) (r / 16)
  have h3 : 2 ^ 4 * (r / 16) ||| r % 16 = 2 ^ 4 * (r / 16) ^^^ r % 16 := by
    apply Nat.eq_of_testBit_eq
    intro i
    rw [Nat.testBit_or, Nat.testBit_xor]
    by_cases hi : i < 4
    · rw [Nat.testBit_two_pow_mul]; simp [show ¬ 4 ≤ i by omega]
    · have : (r % 16).testBit i = false := Nat.testBit_lt_two_pow (Nat.lt_of_lt_of_le (show r % 16 < 2 ^ 4 by omega) (Nat.pow_le_pow_right (by decide) (by omega)))
      rw [this]; simp
  rw [Nat.xor_comm]
  have e : 16 * (r / 16) = 2 ^ 4 * (r / 16) := rfl
  rw [e, ← h3, ← h2, ← h]
theorem nib_step (r : Nat) : r / 16 ^^^ turnsN 4 (r % 16) = turnsN 4 r := by
  conv => rhs; rw [← split16 r, turnsN_xor, four_up]
  rw [Nat.xor_comm]
theorem eight_nibs (r : Nat) : turnsN 4 (turnsN 4 r) = t8 r := by rw [← turnsN_add, t8_def]
theorem and15 (r : Nat) (hr : r < 4294967296) : bits .and .u32 (r : Int) 15 = ((r % 16 : Nat) : Int) := by
  have := u32_and (r : Int) 15 (by omega) (by omega) (by omega) (by omega)
  rw [this]
  have h := Nat.and_two_pow_sub_one_eq_mod r 4
  simpa using congrArg Int.ofNat h
end Go.Proofs.YtlpnhfceblbllaaDoor
