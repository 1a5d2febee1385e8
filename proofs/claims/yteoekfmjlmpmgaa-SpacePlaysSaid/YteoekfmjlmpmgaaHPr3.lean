/- The program's heap: the first one moved to where it may stand. No statement is proved here. -/
import Derived.Test.YteoekfmjlmpmgaaHPr2
namespace Go.Proofs.Yteoekfmjlmpmgaa
open Go.RowKit
set_option maxRecDepth 100000

set_option maxHeartbeats 4000000 in
theorem sink_any (B a g c n : Nat) (vs vw : Value) (H : List Int) (w : World) (hh : HeapAt w B a vs (.slice (some ⟨g, 0, none⟩) n c) vw H) (hn : H.length = n) (hd : downP H 0) (hm : n ≤ 100000) :
    Calls Try.prog 37 #[.pointer (some ⟨a, 1, none⟩)] w fun e w' => e = .returned (.tuple #[]) ∧ ∃ M, heapP M ∧ M.Perm H ∧ HeapAt w' B a vs (.slice (some ⟨g, 0, none⟩) n c) vw M ∧ Only [g] w w' := by
  have H0 := Lib.hid (And.intro hh (And.intro hn hd))
  clear hh hn hd
  go_enter Try.func37, Try.ntmps37
  go_wp2_with fail
  go_loopw [2] (fun t wr => ∃ (k : Nat) (M : List Int), k ≤ n ∧ t = .int .i64 (k : Int) ∧ M.length = n ∧ Hid (HeapAt wr B a vs (.slice (some ⟨g, 0, none⟩) n c) vw M ∧ downP M k ∧ M.Perm H ∧ Only [g] w wr)) (fun t _ => n - (intOf t).toNat)
  case atStart => exact ⟨0, _, Nat.zero_le _, rfl, H0.out.2.1, Lib.hid ⟨H0.out.1, H0.out.2.2, List.Perm.refl _, Only.refl _ _⟩⟩
  case round =>
    obtain ⟨k, M, hk, rfl, hl, HR⟩ := hrel
    have c3 : wr.cell? ⟨a, 1, none⟩ = some (.slice (some ⟨g, 0, none⟩) n c) := row_cells HR.out.1.box 1
    obtain ⟨b, hb⟩ : ∃ b : Nat, 2 * (k : Int) + 1 = (b : Int) := ⟨2 * k + 1, by omega⟩
    have HB := Lib.hid (show b = 2 * k + 1 by omega)
    by_cases hbn : b < n
    · obtain ⟨s, hs⟩ : ∃ s : Nat, (b : Int) + 1 = (s : Int) := ⟨b + 1, by omega⟩
      have HS := Lib.hid (show s = b + 1 by omega)
      obtain ⟨ck, fk⟩ := HR.out.1.own.at_ (get_gI (H := M) (i := k) (by have := HB.out; omega))
      obtain ⟨cb, fb⟩ := HR.out.1.own.at_ (get_gI (H := M) (i := b) (by omega))
      generalize hxk : gI M k = xk at *
      generalize hxb : gI M b = xb at *
      have HX := Lib.hid (And.intro hxk hxb)
      clear hxk hxb
      by_cases hsn : s < n
      · obtain ⟨cs, fs⟩ := HR.out.1.own.at_ (get_gI (H := M) (i := s) (by omega))
        generalize hxs : gI M s = xs at *
        have HXS := Lib.hid hxs
        clear hxs
        by_cases hlt : xs < xb
        · skip
          have HM := Lib.hid (show ∀ i, 0 < i → i < M.length → (i - 1) / 2 = k → gI M s ≤ gI M i from fun i h0 hi hp => by
            have hc := child_of h0 hp
            have e1 := HB.out
            have e2 := HS.out
            rcases hc with hc | hc
            · rw [show i = b by omega, HX.out.2, HXS.out]; omega
            · rw [show i = s by omega]; exact Int.le_refl _)
          by_cases hle : xk ≤ xs
          · go_wp2_with fail
            go_quiet (fail)
            obtain ⟨q1, hq1⟩ : ∃ q1, q1 = nq := ⟨_, rfl⟩
            subst hq1
            go_wp2_with fail
            go_quiet (fail)
            go_wp2_with fail
            exact ⟨rfl, .tuple #[], results_void rfl _ _, rfl, M, down_done HR.out.2.1 (fun i h0 hi hp => Int.le_trans (by rw [HX.out.1, HXS.out]; exact hle) (HM.out i h0 hi hp)), HR.out.2.2.1, (HR.out.1.drewN _).drewN _, (HR.out.2.2.2.drewN _).drewN _⟩
          · have hle2 : xs < xk := by omega
            go_wp2_with fail
            go_quiet (fail)
            obtain ⟨q1, hq1⟩ : ∃ q1, q1 = nq := ⟨_, rfl⟩
            subst hq1
            go_wp2_with fail
            go_quiet (fail)
            have HC := Lib.hid (swap_any B a g c n vs vw M k s _ (HR.out.1.drewN (q1 + nq)) hl (by have := HB.out; omega) (by omega) (by omega))
            have HW : Hid (downP (swapL M k s) s ∧ (swapL M k s).Perm H ∧ (swapL M k s).length = n) := Lib.hid ⟨down_swap HR.out.2.1 (by have := HB.out; have := HS.out; omega) (by have := HB.out; omega) (by omega) (by rw [HX.out.1, HXS.out]; exact hle2) HM.out, (swapL_perm (by have := HB.out; omega) (by omega)).trans HR.out.2.2.1, by rw [swapL_len]; exact hl⟩
            have HZ := Lib.hid (HR.out.2.2.2.drewN (q1 + nq))
            clear ck fk cb fb c3 hb cs fs hs
            go_wp2_with fail
            refine HC.out.mono ?_
            rintro e w2 ⟨rfl, h1, h2⟩
            have H2 := Lib.hid (And.intro h1 (HZ.out.trans h2))
            clear h1 h2
            go_wp2_with fail
            go_roundw
            case rel => exact ⟨s, _, by omega, rfl, HW.out.2.2, Lib.hid ⟨H2.out.1, HW.out.1, HW.out.2.1, H2.out.2⟩⟩
            case measure => have := HB.out; have := HS.out; simp [intOf]; omega
        · have hlt2 : xb ≤ xs := by omega
          have hltd : decide (xs < xb) = false := by simp; omega
          have HM := Lib.hid (show ∀ i, 0 < i → i < M.length → (i - 1) / 2 = k → gI M b ≤ gI M i from fun i h0 hi hp => by
            have hc := child_of h0 hp
            have e1 := HB.out
            have e2 := HS.out
            rcases hc with hc | hc
            · rw [show i = b by omega]; exact Int.le_refl _
            · rw [show i = s by omega, HX.out.2, HXS.out]; omega)
          by_cases hle : xk ≤ xb
          · go_wp2_with fail
            go_quiet (fail)
            obtain ⟨q1, hq1⟩ : ∃ q1, q1 = nq := ⟨_, rfl⟩
            subst hq1
            go_wp2_with fail
            go_quiet (fail)
            go_wp2_with fail
            exact ⟨rfl, .tuple #[], results_void rfl _ _, rfl, M, down_done HR.out.2.1 (fun i h0 hi hp => Int.le_trans (by rw [HX.out.1, HX.out.2]; exact hle) (HM.out i h0 hi hp)), HR.out.2.2.1, (HR.out.1.drewN _).drewN _, (HR.out.2.2.2.drewN _).drewN _⟩
          · have hle2 : xb < xk := by omega
            go_wp2_with fail
            go_quiet (fail)
            obtain ⟨q1, hq1⟩ : ∃ q1, q1 = nq := ⟨_, rfl⟩
            subst hq1
            go_wp2_with fail
            go_quiet (fail)
            have HC := Lib.hid (swap_any B a g c n vs vw M k b _ (HR.out.1.drewN (q1 + nq)) hl (by have := HB.out; omega) (by omega) (by omega))
            have HW : Hid (downP (swapL M k b) b ∧ (swapL M k b).Perm H ∧ (swapL M k b).length = n) := Lib.hid ⟨down_swap HR.out.2.1 (by have := HB.out; omega) (by have := HB.out; omega) (by omega) (by rw [HX.out.1, HX.out.2]; exact hle2) HM.out, (swapL_perm (by have := HB.out; omega) (by omega)).trans HR.out.2.2.1, by rw [swapL_len]; exact hl⟩
            have HZ := Lib.hid (HR.out.2.2.2.drewN (q1 + nq))
            clear ck fk cb fb c3 hb cs fs hs
            go_wp2_with fail
            refine HC.out.mono ?_
            rintro e w2 ⟨rfl, h1, h2⟩
            have H2 := Lib.hid (And.intro h1 (HZ.out.trans h2))
            clear h1 h2
            go_wp2_with fail
            go_roundw
            case rel => exact ⟨b, _, by omega, rfl, HW.out.2.2, Lib.hid ⟨H2.out.1, HW.out.1, HW.out.2.1, H2.out.2⟩⟩
            case measure => have := HB.out; simp [intOf]; omega
      · have hsd : decide ((s : Int) < (n : Int)) = false := by simp; omega
        have HM := Lib.hid (show ∀ i, 0 < i → i < M.length → (i - 1) / 2 = k → gI M b ≤ gI M i from fun i h0 hi hp => by
          have hc := child_of h0 hp
          have e1 := HB.out
          have e2 := HS.out
          rcases hc with hc | hc
          · rw [show i = b by omega]; exact Int.le_refl _
          · omega)
        by_cases hle : xk ≤ xb
        · go_wp2_with fail
          go_quiet (fail)
          obtain ⟨q1, hq1⟩ : ∃ q1, q1 = nq := ⟨_, rfl⟩
          subst hq1
          go_wp2_with fail
          go_quiet (fail)
          go_wp2_with fail
          exact ⟨rfl, .tuple #[], results_void rfl _ _, rfl, M, down_done HR.out.2.1 (fun i h0 hi hp => Int.le_trans (by rw [HX.out.1, HX.out.2]; exact hle) (HM.out i h0 hi hp)), HR.out.2.2.1, (HR.out.1.drewN _).drewN _, (HR.out.2.2.2.drewN _).drewN _⟩
        · have hle2 : xb < xk := by omega
          go_wp2_with fail
          go_quiet (fail)
          obtain ⟨q1, hq1⟩ : ∃ q1, q1 = nq := ⟨_, rfl⟩
          subst hq1
          go_wp2_with fail
          go_quiet (fail)
          have HC := Lib.hid (swap_any B a g c n vs vw M k b _ (HR.out.1.drewN (q1 + nq)) hl (by have := HB.out; omega) (by omega) (by omega))
          have HW : Hid (downP (swapL M k b) b ∧ (swapL M k b).Perm H ∧ (swapL M k b).length = n) := Lib.hid ⟨down_swap HR.out.2.1 (by have := HB.out; omega) (by have := HB.out; omega) (by omega) (by rw [HX.out.1, HX.out.2]; exact hle2) HM.out, (swapL_perm (by have := HB.out; omega) (by omega)).trans HR.out.2.2.1, by rw [swapL_len]; exact hl⟩
          have HZ := Lib.hid (HR.out.2.2.2.drewN (q1 + nq))
          clear ck fk cb fb c3 hb hs
          go_wp2_with fail
          refine HC.out.mono ?_
          rintro e w2 ⟨rfl, h1, h2⟩
          have H2 := Lib.hid (And.intro h1 (HZ.out.trans h2))
          clear h1 h2
          go_wp2_with fail
          go_roundw
          case rel => exact ⟨b, _, by omega, rfl, HW.out.2.2, Lib.hid ⟨H2.out.1, HW.out.1, HW.out.2.1, H2.out.2⟩⟩
          case measure => have := HB.out; simp [intOf]; omega
    · go_wp2_with fail
      exact ⟨rfl, .tuple #[], results_void rfl _ _, rfl, M, down_done HR.out.2.1 (fun i h0 hi hp => by have := HB.out; omega), HR.out.2.2.1, HR.out.1, HR.out.2.2.2⟩
end Go.Proofs.Yteoekfmjlmpmgaa
