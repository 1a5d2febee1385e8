/- The document's examples of layer 13. No statement is proved here. -/
import Derived.Test.YteoekfmjlmpmgaaHEnv
namespace Go.Proofs.Yteoekfmjlmpmgaa
open Go.RowKit
set_option maxRecDepth 100000

theorem ex_new : newP 5 [1, 3] = some [0, 1, 0, 1, 0] := by decide
theorem ex_bad : newP 5 [1, 1] = none := by decide
theorem ex_t1 : takeN [0, 1, 0, 1, 0] = 0 ∧ takeE [0, 1, 0, 1, 0] = 0 ∧ takeL [0, 1, 0, 1, 0] = [1, 1, 0, 1, 0] := by decide
theorem ex_t2 : takeN [1, 1, 0, 1, 0] = 2 ∧ takeE [1, 1, 0, 1, 0] = 0 ∧ takeL [1, 1, 0, 1, 0] = [1, 1, 1, 1, 0] := by decide
theorem ex_d : setE [1, 1, 1, 1, 0] 3 = 0 ∧ setL [1, 1, 1, 1, 0] 3 2 = [1, 1, 1, 2, 0] := by decide
theorem ex_t3 : takeN [1, 1, 1, 2, 0] = 4 ∧ takeE [1, 1, 1, 2, 0] = 0 ∧ takeL [1, 1, 1, 2, 0] = [1, 1, 1, 2, 1] := by decide
theorem ex_t4 : takeN [1, 1, 1, 2, 1] = 0 ∧ takeE [1, 1, 1, 2, 1] = 4 ∧ takeL [1, 1, 1, 2, 1] = [1, 1, 1, 2, 1] := by decide
theorem ex_u : manyOf 2 [1, 1, 1, 2, 1] = 1 ∧ turnL [1, 1, 1, 2, 1] = [1, 1, 1, 0, 1] := by decide
theorem ex_t5 : takeN [1, 1, 1, 0, 1] = 3 ∧ takeE [1, 1, 1, 0, 1] = 0 ∧ takeL [1, 1, 1, 0, 1] = [1, 1, 1, 1, 1] := by decide
theorem ex_f : zerosN [1, 1, 1, 1, 1] = 0 := by decide
set_option maxHeartbeats 4000000 in
theorem awake13_any {W : World} {Sp : World → List Nat → Nat → List Int → Prop} (P : P13 W Sp) (w : World) (hw : Below W.heap.size W w) : Calls Try.prog 8 #[] w fun e w' => e = .returned (.bool true) ∧ Below w.heap.size w w' := by
  have HP := Lib.hid P
  have HW := Lib.hid hw
  have HS := hw.size
  clear P hw
  go_enter Try.func8, Try.ntmps8
  go_wp2_with fail
  refine (new_at HP.out (below1 w _) (HW.out.alloc HW.out.size _) 5 _ 2 2 [1, 3] (by unfold okInt; omega) (InI.litF w [1, 3] _) rfl (Nat.le_refl _) (by decide) (by omega) (fun e => by cases e) (by unfold okInt; simp)).mono ?_
  rintro e w1 (⟨h1, -⟩ | ⟨M, a, h1, rfl, S1⟩)
  · rw [ex_new] at h1; cases h1
  rw [ex_new] at h1
  injection h1 with h1
  subst h1
  have S1 := Lib.hid S1
  go_wp2_with fail
  refine (new_at HP.out (below1 w1 _) (S1.out.top.alloc S1.out.top.size _) 5 _ 2 2 [1, 1] (by unfold okInt; omega) (InI.litF w1 [1, 1] _) rfl (Nat.le_refl _) (by decide) (by omega) (fun e => by cases e) (by unfold okInt; simp)).mono ?_
  rintro e w2 (⟨-, rfl, b2, -⟩ | ⟨M, b, h1, -⟩)
  rotate_left
  · rw [ex_bad] at h1; cases h1
  have S2 := Lib.hid (S1.out.then_ HP.out b2)
  clear b2 S1
  go_wp2_with fail
  refine (S2.out.take HP.out HS).mono ?_
  rintro e w3 ⟨rfl, S3⟩
  have S3 := Lib.hid S3
  rw [ex_t1.1, ex_t1.2.1, ex_t1.2.2] at *
  clear S2
  go_wp2_with fail
  refine (S3.out.take HP.out HS).mono ?_
  rintro e w4 ⟨rfl, S4⟩
  have S4 := Lib.hid S4
  rw [ex_t2.1, ex_t2.2.1, ex_t2.2.2] at *
  clear S3
  go_wp2_with fail
  refine (S4.out.drop HP.out HS 3 (by unfold okInt; omega)).mono ?_
  rintro e w5 ⟨rfl, S5⟩
  have S5 := Lib.hid S5
  rw [ex_d.1, ex_d.2] at *
  clear S4
  go_wp2_with fail
  refine (S5.out.take HP.out HS).mono ?_
  rintro e w6 ⟨rfl, S6⟩
  have S6 := Lib.hid S6
  rw [ex_t3.1, ex_t3.2.1, ex_t3.2.2] at *
  clear S5
  go_wp2_with fail
  refine (S6.out.take HP.out HS).mono ?_
  rintro e w7 ⟨rfl, S7⟩
  have S7 := Lib.hid S7
  rw [ex_t4.1, ex_t4.2.1, ex_t4.2.2] at *
  clear S6
  go_wp2_with fail
  refine (S7.out.turn HP.out HS).mono ?_
  rintro e w8 ⟨rfl, S8⟩
  have S8 := Lib.hid S8
  rw [ex_u.1, ex_u.2] at *
  clear S7
  go_wp2_with fail
  refine (S8.out.take HP.out HS).mono ?_
  rintro e w9 ⟨rfl, S9⟩
  have S9 := Lib.hid S9
  rw [ex_t5.1, ex_t5.2.1, ex_t5.2.2] at *
  clear S8
  go_wp2_with fail
  refine (S9.out.free HP.out HS).mono ?_
  rintro e w10 ⟨rfl, S10⟩
  have S10 := Lib.hid S10
  rw [ex_f] at *
  clear S9
  go_wp2_with fail
  go_ret
  exact ⟨rfl, S10.out.low⟩
end Go.Proofs.Yteoekfmjlmpmgaa
