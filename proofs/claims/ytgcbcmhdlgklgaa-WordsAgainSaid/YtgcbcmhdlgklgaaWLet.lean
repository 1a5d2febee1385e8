/- Letters and folding, by the program. No statement is proved here. -/
import Derived.Test.YtgcbcmhdlgklgaaWPure
namespace Go.Proofs.Ytgcbcmhdlgklgaa
open Go.RowKit Go.Lib
set_option maxRecDepth 100000

set_option maxHeartbeats 4000000 in
theorem isLetter_any (r : Int) (h0 : 0 ≤ r) (h1 : r ≤ 1114111) (w : World) : Calls Try.prog 27 #[.int .i32 r] w fun e w' => e = .returned (.bool (letterZ r)) ∧ w' = w := by
  cases hl : letterZ r
  · have hn : ¬ ((48 ≤ r ∧ r ≤ 57) ∨ (65 ≤ r ∧ r ≤ 90) ∨ (97 ≤ r ∧ r ≤ 122) ∨ (192 ≤ r ∧ r ≤ 591 ∧ r ≠ 215 ∧ r ≠ 247) ∨ (880 ≤ r ∧ r ≤ 1279)) := of_decide_eq_false hl
    clear hl
    go_enter Try.func27, Try.ntmps27
    go_wp2
    all_goals first | (exfalso; omega) | (go_ret; first | exact ⟨rfl, rfl⟩ | (refine ⟨ret_bool ?_, rfl⟩; simp; omega) | (refine ⟨ret_bool ?_, rfl⟩; simp))
  · have hn : ((48 ≤ r ∧ r ≤ 57) ∨ (65 ≤ r ∧ r ≤ 90) ∨ (97 ≤ r ∧ r ≤ 122) ∨ (192 ≤ r ∧ r ≤ 591 ∧ r ≠ 215 ∧ r ≠ 247) ∨ (880 ≤ r ∧ r ≤ 1279)) := of_decide_eq_true hl
    clear hl
    go_enter Try.func27, Try.ntmps27
    go_wp2
    all_goals first | (exfalso; omega) | (go_ret; first | exact ⟨rfl, rfl⟩ | (refine ⟨ret_bool ?_, rfl⟩; simp; omega) | (refine ⟨ret_bool ?_, rfl⟩; simp))
theorem foldUp {r : Int} (h : (65 ≤ r ∧ r ≤ 90) ∨ (192 ≤ r ∧ r ≤ 222) ∨ (913 ≤ r ∧ r ≤ 939) ∨ (1040 ≤ r ∧ r ≤ 1071)) : foldZ r = r + 32 := by rw [foldZ, if_pos h]
theorem foldFar {r : Int} (h : 1024 ≤ r ∧ r ≤ 1039) : foldZ r = r + 80 := by rw [foldZ, if_neg (by omega), if_pos h]
theorem foldNo {r : Int} (h : ¬ ((65 ≤ r ∧ r ≤ 90) ∨ (192 ≤ r ∧ r ≤ 222) ∨ (913 ≤ r ∧ r ≤ 939) ∨ (1040 ≤ r ∧ r ≤ 1071))) (h2 : ¬ (1024 ≤ r ∧ r ≤ 1039)) : foldZ r = r := by rw [foldZ, if_neg h, if_neg h2]
set_option maxHeartbeats 4000000 in
theorem folded_any (r : Int) (h0 : 0 ≤ r) (h1 : r ≤ 1279) (hn : r ≠ 215) (w : World) : Calls Try.prog 29 #[.int .i32 r] w fun e w' => e = .returned (.int .i32 (foldZ r)) ∧ w' = w := by
  by_cases a : (65 ≤ r ∧ r ≤ 90) ∨ (192 ≤ r ∧ r ≤ 222) ∨ (913 ≤ r ∧ r ≤ 939) ∨ (1040 ≤ r ∧ r ≤ 1071)
  · rw [foldUp a]
    go_enter Try.func29, Try.ntmps29
    rcases a with a | a | a | a
    all_goals
      obtain ⟨a1, a2⟩ := a
      go_wp2
      go_ret
      exact ⟨rfl, rfl⟩
  · by_cases b : 1024 ≤ r ∧ r ≤ 1039
    · rw [foldFar b]
      obtain ⟨b1, b2⟩ := b
      clear a
      go_enter Try.func29, Try.ntmps29
      go_wp2
      go_ret
      exact ⟨rfl, rfl⟩
    · rw [foldNo a b]
      go_enter Try.func29, Try.ntmps29
      go_wp2
      all_goals first | (exfalso; omega) | (go_ret; exact ⟨rfl, rfl⟩)
end Go.Proofs.Ytgcbcmhdlgklgaa
