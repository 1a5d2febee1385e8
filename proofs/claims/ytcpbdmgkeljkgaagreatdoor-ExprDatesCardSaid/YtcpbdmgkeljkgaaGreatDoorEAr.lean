/- Numbers of layer 5: plus, minus, times. No statement is proved here. -/
import Derived.Test.YtcpbdmgkeljkgaaGreatDoorESm
import Derived.Handy
import Derived.BigQuiet
namespace Go.Proofs.YtcpbdmgkeljkgaaGreatDoor
open Go.RowKit
set_option maxRecDepth 100000

theorem below_drewN {n : Nat} {w w' : World} (h : Below n w w') (k : Nat) : Below n w (w'.drewN k) := ⟨h.os, h.tape, h.output, h.size, h.block⟩
theorem plus_any {a b : Int} (ha : in64 a) (hb : in64 b) (w : World) : Calls Tryz.prog 117 #[.int .i64 a, .int .i64 b] w fun e w' => e = .returned (.tuple #[.int .i64 (wrap64 (a + b)), .bool (decide (in64 (a + b)))]) ∧ w' = w := by
  have hp := plus_fits ha hb
  have h1 := wrap64_range (a + b)
  obtain ⟨n, hn⟩ : ∃ n, wrap64 (a + b) = n := ⟨_, rfl⟩
  have hw : IntKind.i64.wrap (a + b) = n := by rw [IntKind.wrap_i64]; unfold wrap64 at hn; exact hn
  rw [hn] at hp h1 ⊢
  have HP := Lib.hid hp
  clear hp hn
  unfold in64 at ha hb h1
  go_enter Tryz.func117, Tryz.ntmps117
  go_wp2_with fail
  go_ret2
  exact ⟨by rw [HP.out]; rfl, rfl⟩
theorem minus_any {a b : Int} (ha : in64 a) (hb : in64 b) (w : World) : Calls Tryz.prog 119 #[.int .i64 a, .int .i64 b] w fun e w' => e = .returned (.tuple #[.int .i64 (wrap64 (a - b)), .bool (decide (in64 (a - b)))]) ∧ w' = w := by
  have hp := minus_fits ha hb
  have h1 := wrap64_range (a - b)
  obtain ⟨n, hn⟩ : ∃ n, wrap64 (a - b) = n := ⟨_, rfl⟩
  have hw : IntKind.i64.wrap (a - b) = n := by rw [IntKind.wrap_i64]; unfold wrap64 at hn; exact hn
  rw [hn] at hp h1 ⊢
  have HP := Lib.hid hp
  clear hp hn
  unfold in64 at ha hb h1
  go_enter Tryz.func119, Tryz.ntmps119
  go_wp2_with fail
  go_ret2
  exact ⟨by rw [HP.out]; rfl, rfl⟩
theorem times_any {a b : Int} (ha : in64 a) (hb : in64 b) (w : World) : Calls Tryz.prog 118 #[.int .i64 a, .int .i64 b] w fun e w' => e = .returned (.tuple #[.int .i64 (wrap64 (a * b)), .bool (decide (in64 (a * b)))]) ∧ Below w.heap.size w w' := by
  have hp := times_fits ha hb
  have h1 := wrap64_range (a * b)
  obtain ⟨n, hn⟩ : ∃ n, wrap64 (a * b) = n := ⟨_, rfl⟩
  have hw : IntKind.i64.wrap (a * b) = n := by rw [IntKind.wrap_i64]; unfold wrap64 at hn; exact hn
  unfold timesF at hp
  rw [hn] at hp h1 ⊢
  have HP := Lib.hid hp
  clear hp hn
  unfold in64 at ha hb h1
  go_enter Tryz.func118, Tryz.ntmps118
  by_cases hb1 : b = -1
  · have hbb : (b == -1) = true := by simpa using hb1
    have hq := HP.out
    rw [if_pos hb1] at hq
    have HQ := Lib.hid hq
    clear hq hb1
    go_wp2_with fail
    go_ret2
    exact ⟨by rw [← HQ.out]; simp [bne]; rfl, Below.refl _ _⟩
  · have hbb : (b == -1) = false := by simpa using hb1
    by_cases hb0 : b = 0
    · subst hb0
      have hn0 : n = 0 := by rw [← hw, Int.mul_zero]; rfl
      subst hn0
      clear HP hw hb1 hbb h1 hb
      go_wp2_with fail
      go_quiet (fail)
      all_goals
        dsimp only [Exit.then]
        go_wp2_with fail
        go_ret2
        exact ⟨by simp [in64], below_drewN (Below.refl _ _) nq⟩
    · have hd : IntKind.i64.wrap (n.tdiv b) = n.tdiv b := by
        have := div_within (a := n) (b := b) ⟨h1.1, h1.2⟩ hb0 (fun h => hb1 h.2)
        have h2 := wrap64_in this
        rw [IntKind.wrap_i64]
        unfold wrap64 at h2
        exact h2
      have hq := HP.out
      rw [if_neg hb1, decide_eq_false hb0, Bool.false_or] at hq
      have HQ := Lib.hid hq
      have hb3 : (b == 0) = false := by simpa using hb0
      have hb4 : decide (b = 0) = false := by simpa using hb0
      clear hq HP
      go_wp2_with fail
      go_quiet (fail)
      all_goals
        dsimp only [Exit.then]
        go_wp2_with fail
        go_ret2
        exact ⟨by rw [← HQ.out]; simp; rfl, below_drewN (Below.refl _ _) nq⟩
end Go.Proofs.YtcpbdmgkeljkgaaGreatDoor
