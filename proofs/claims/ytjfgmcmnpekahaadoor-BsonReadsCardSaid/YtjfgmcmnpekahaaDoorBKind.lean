/- The document's own kinds and numbers as bytes: no statement is proved here. -/
import Derived.Test.YtjfgmcmnpekahaaDoorBytes
namespace Go.Proofs.YtjfgmcmnpekahaaDoor
open Go.RowKit
set_option maxRecDepth 100000

/-- The byte that tells a kind. -/
def kindB : List Int := [0, 255, 10, 18, 2, 3, 4, 5, 7, 8, 9, 127]
set_option maxHeartbeats 2000000 in
theorem rkind_any (k : Nat) (h1 : 1 ≤ k) (h2 : k ≤ 11) (w : World) :
    Calls Tryd.prog 57 #[.int .i64 k] w fun e w' => e = .returned (.int .u8 (kindB.getD k 0)) ∧ Below w.heap.size w w' := by
  obtain rfl | rfl | rfl | rfl | rfl | rfl | rfl | rfl | rfl | rfl | rfl : k = 1 ∨ k = 2 ∨ k = 3 ∨ k = 4 ∨ k = 5 ∨ k = 6 ∨ k = 7 ∨ k = 8 ∨ k = 9 ∨ k = 10 ∨ k = 11 := by omega
  all_goals
    go_enter Tryd.func57, Tryd.ntmps57
    go_wp2_with fail
    go_ret
    exact ⟨rfl, Below.refl _ _⟩
/-- A number of so many bytes, the lowest one first. -/
def leB : Nat → Int → List Int
  | 0, _ => []
  | k + 1, n => n % 256 :: leB k (n / 256)
theorem leB_len (k : Nat) (n : Int) : (leB k n).length = k := by
  induction k generalizing n with
  | zero => rfl
  | succ k ih => simp [leB, ih]
theorem leB_snoc (k : Nat) (n : Int) : leB (k + 1) n = leB k n ++ [n / 256 ^ k % 256] := by
  induction k generalizing n with
  | zero => simp [leB]
  | succ k ih =>
    rw [leB, ih, leB, List.cons_append, Int.ediv_ediv_of_nonneg (by omega), Int.pow_succ, Int.mul_comm]
/-- Bytes as what stands in their cells. -/
def btV (l : List Int) : List Value := l.map (Value.int .u8)

set_option maxHeartbeats 2000000 in
theorem four_any (n : Int) (h0 : 0 ≤ n) (h1 : n ≤ 9223372036854775807) (w : World) :
    Calls Tryd.prog 39 #[.int .i64 n] w fun e w' => e = .returned (.slice (some ⟨w.heap.size, 0, none⟩) 4 4) ∧ w'.ownsRow w.heap.size 5 1 (.slice (some ⟨w.heap.size, 0, none⟩) 4 4) 4 (btV (leB 4 n)) ∧ Below w.heap.size w w' := by
  go_enter Tryd.func39, Tryd.ntmps39
  go_wp2_with fail
  go_ret
  refine ⟨rfl, ?_, below1 _ _⟩
  have hb : [Value.int .u8 (n % 256), .int .u8 (n / 256 % 256), .int .u8 (n / 65536 % 256), .int .u8 (n / 16777216 % 256)] = btV (leB 4 n) := by
    have a1 : n / 65536 = n / 256 / 256 := by omega
    have a2 : n / 16777216 = n / 256 / 256 / 256 := by omega
    rw [a1, a2]
    rfl
  rw [← hb]
  exact World.ownsRow_lit _ _ 4 (Nat.le_refl _) (by decide) rfl
end Go.Proofs.YtjfgmcmnpekahaaDoor
