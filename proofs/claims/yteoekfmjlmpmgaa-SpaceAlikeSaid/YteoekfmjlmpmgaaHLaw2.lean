/- The law SpaceAlike over the contracts. No statement is proved here. -/
import Derived.Test.YteoekfmjlmpmgaaHTwo
import Derived.Test.YteoekfmjlmpmgaaStepC
namespace Go.Proofs.Yteoekfmjlmpmgaa
open Go.RowKit
set_option maxRecDepth 100000

set_option maxHeartbeats 8000000 in
theorem alike_law {W : World} {Sp : World → List Nat → Nat → List Int → Prop} (P : P13 W Sp) (pages : Int) (hp : okInt pages) (oa : Option Addr) (on oc : Nat) (os : List Op3) (hi : InT W oa os) (hall : ∀ o ∈ os, o.ok) (hn : os.length = on) (hsm : on ≤ 140737488355328) :
    Calls Try.prog 5 #[.int .i64 pages, .slice oa on oc] W fun e w' => e = .returned (.bool true) ∧ Below W.heap.size W w' := by
  have HP := Lib.hid P
  have HI := Lib.hid (And.intro hi (And.intro hall hn))
  clear P hi hall hn
  go_enter Try.func5, Try.ntmps5
  go_wp2_with fail
  refine (awake13_any HP.out W (Below.refl _ _)).mono ?_
  rintro e w1 ⟨rfl, b1⟩
  have B1 := Lib.hid b1
  clear b1
  go_wp2_with fail
  refine (new_at HP.out B1.out B1.out pages none 0 0 [] hp (InI.nil _ _) rfl (Nat.le_refl _) (by decide) (by omega) (fun _ => ⟨rfl, rfl⟩) (fun _ h => by cases h)).mono ?_
  rintro e w2 (⟨-, rfl, b2, -⟩ | ⟨M, sa, h1, rfl, S2⟩)
  · have B2 := Lib.hid b2
    clear b2
    go_wp2_with fail
    go_ret
    exact ⟨rfl, B2.out⟩
  have hM := newP_is h1
  have hlen : (M.length : Int) = pages := hM.2.2.1
  have hmax : 1 ≤ M.length ∧ M.length ≤ 65536 := by omega
  clear h1 hM
  have S2 := Lib.hid S2
  go_wp2_with fail
  go_loopw [8] (fun i wr => ∃ (k : Nat), k ≤ on ∧ k ≤ 200 ∧ i = .int .i64 (k : Int) ∧ Hid (∃ L : List Int, L.length = M.length ∧ SpAt Sp W W wr sa L)) (fun i _ => 200 - (intOf i).toNat)
  case atStart => exact ⟨0, Nat.zero_le _, by omega, rfl, Lib.hid ⟨M, rfl, S2.out⟩⟩
  case round =>
    obtain ⟨k, hk1, hk2, rfl, HK⟩ := hrel
    obtain ⟨L, hL, hS⟩ := HK.out
    have HS := Lib.hid hS
    by_cases hlt : k < on ∧ k < 200
    · obtain ⟨q1, q2⟩ := hlt
      obtain ⟨bo, oo, x, rfl, hx, c0, c1, c2⟩ := HI.out.1.one (hS.top) (j := k) (by rw [HI.out.2.2]; exact q1)
      have hok := HI.out.2.1 x (List.mem_of_getElem? hx)
      clear hS c0
      by_cases ha : x.act = 0
      · rw [ha] at c1
        go_wp2_with fail
        refine (HS.out.take HP.out (Nat.le_refl _)).mono ?_
        rintro e w4 ⟨rfl, S4⟩
        have S4 : Hid (∃ L : List Int, L.length = M.length ∧ SpAt Sp W W w4 sa L) := Lib.hid ⟨_, (takeL_len L).trans hL, S4⟩
        go_wp2_with fail
        go_roundw
        case rel => exact ⟨k + 1, by omega, by omega, by go_num, S4⟩
        case measure => simp [intOf]; omega
      · by_cases ha1 : x.act = 1
        · rw [ha1] at c1
          go_wp2_with fail
          refine (HS.out.drop HP.out (Nat.le_refl _) x.n hok.n).mono ?_
          rintro e w4 ⟨rfl, S4⟩
          have S4 : Hid (∃ L : List Int, L.length = M.length ∧ SpAt Sp W W w4 sa L) := Lib.hid ⟨_, (setL_len L _ _).trans hL, S4⟩
          go_wp2_with fail
          go_roundw
          case rel => exact ⟨k + 1, by omega, by omega, by go_num, S4⟩
          case measure => simp [intOf]; omega
        · by_cases ha2 : x.act = 2
          · rw [ha2] at c1
            go_wp2_with fail
            refine (HS.out.back HP.out (Nat.le_refl _) x.n hok.n).mono ?_
            rintro e w4 ⟨rfl, S4⟩
            have S4 : Hid (∃ L : List Int, L.length = M.length ∧ SpAt Sp W W w4 sa L) := Lib.hid ⟨_, (setL_len L _ _).trans hL, S4⟩
            go_wp2_with fail
            go_roundw
            case rel => exact ⟨k + 1, by omega, by omega, by go_num, S4⟩
            case measure => simp [intOf]; omega
          · go_wp2_with fail
            go_roundw
            case rel => exact ⟨k + 1, by omega, by omega, by go_num, HK⟩
            case measure => simp [intOf]; omega
    · have h3 : three L := by obtain ⟨F, h4, -⟩ := HS.out.sp; exact HP.out.three h4
      have HT2 := Lib.hid (turn_two h3)
      clear hS HK
      go_wp2_with fail
      all_goals
        refine (HS.out.turn HP.out (Nat.le_refl _)).mono ?_
        rintro e w4 ⟨rfl, S4⟩
        have S4 := Lib.hid S4
        clear HS
        go_wp2_with fail
        refine (S4.out.off.used HP.out (Nat.le_refl _)).mono ?_
        rintro e w5 ⟨v1, v2, rfl, S5k, -, o1, o2, -⟩
        have S5 := Lib.hid S5k.at_
        clear S5k
        rw [show areL (turnL L) 2 = [] from are_turn2 L 0] at o2
        obtain ⟨a1, d1, rfl, i1, n1, l1, m1⟩ := o1.shape
        obtain ⟨a2, d2, rfl, -, -, -, -⟩ := o2.shape
        have I1 := Lib.hid (And.intro i1 (And.intro n1 (And.intro l1 m1)))
        clear o1 o2 i1 n1 l1 m1 S4
        go_wp2_with fail
        refine (new_at HP.out (Below.refl _ _) S5.out.top pages a1 _ d1 (areL (turnL L) 1) hp I1.out.1 rfl I1.out.2.2.1 I1.out.2.2.2 (by have h5 := areL_len 1 (turnL L); have h6 := many_le 1 (turnL L); rw [turnL_len] at h6; omega) I1.out.2.1 (areL_ok (by rw [turnL_len]; omega))).mono ?_
        rintro e w6 (⟨h1, -⟩ | ⟨M', sb, h1, rfl, S6⟩)
        · rw [← hlen, ← hL, ← turnL_len L, newP_are HT2.out (by rw [turnL_len]; omega)] at h1; cases h1
        rw [← hlen, ← hL, ← turnL_len L, newP_are HT2.out (by rw [turnL_len]; omega)] at h1
        injection h1 with h1
        subst h1
        have HQ := Lib.hid (S5.out.two HP.out S6)
        clear S5 S6 I1
        go_wp2_with fail
        go_loopw [13, 14, 15, 16, 17] (fun i _ _ _ _ wr => ∃ (k : Nat), k ≤ 20 ∧ i = .int .i64 (k : Int) ∧ Hid (∃ T : List Int, Sp2 Sp W W wr sa sb T T)) (fun i _ _ _ _ _ => 20 - (intOf i).toNat)
        case atStart => exact ⟨0, Nat.zero_le _, rfl, Lib.hid ⟨_, HQ.out⟩⟩
        case round =>
          obtain ⟨r, hr, rfl, HK⟩ := hrel
          obtain ⟨T, hT⟩ := HK.out
          have HT := Lib.hid hT
          clear hT HK
          by_cases hlt : r < 20
          · go_wp2_with fail
            refine (HT.out.left HP.out (Nat.le_refl _) (fun F hF => HP.out.take F sa T _ HT.out.top hF)).mono ?_
            rintro e w7 ⟨rfl, S7⟩
            have S7 := Lib.hid S7
            go_wp2_with fail
            refine (S7.out.right HP.out (Nat.le_refl _) (fun F hF => HP.out.take F sb T _ S7.out.top hF)).mono ?_
            rintro e w8 ⟨rfl, S8⟩
            have S8 := Lib.hid S8
            go_wp2_with fail
            go_roundw
            case rel => exact ⟨r + 1, by omega, by go_num, Lib.hid ⟨_, S8.out⟩⟩
            case measure => simp [intOf]; omega
          · have hr2 : r = 20 := by omega
            subst hr2
            go_wp2_with fail
            refine (HT.out.left HP.out (Nat.le_refl _) (fun F hF => HP.out.free F sa T _ HT.out.top hF)).mono ?_
            rintro e w7 ⟨rfl, S7⟩
            have S7 := Lib.hid S7
            go_wp2_with fail
            refine (S7.out.right HP.out (Nat.le_refl _) (fun F hF => HP.out.free F sb T _ S7.out.top hF)).mono ?_
            rintro e w8 ⟨rfl, S8⟩
            have S8 := Lib.hid S8
            go_wp2_with fail
            go_ret
            exact ⟨by simp, S8.out.low⟩
end Go.Proofs.Yteoekfmjlmpmgaa
