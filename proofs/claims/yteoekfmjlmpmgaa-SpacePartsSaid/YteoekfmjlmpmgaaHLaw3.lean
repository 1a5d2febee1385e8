/- The law SpaceParts over the contracts. No statement is proved here. -/
import Derived.Test.YteoekfmjlmpmgaaHTwo
import Derived.Test.YteoekfmjlmpmgaaStepC
namespace Go.Proofs.Yteoekfmjlmpmgaa
open Go.RowKit
set_option maxRecDepth 100000

theorem many_sum : ∀ {L : List Int}, three L → manyOf 1 L + manyOf 2 L + zerosN L = L.length
  | [], _ => rfl
  | x :: l, h => by
    have := many_sum (L := l) fun y hy => h y (List.mem_cons_of_mem _ hy)
    rcases h x (List.mem_cons_self ..) with hx | hx | hx <;> subst hx <;> simp [manyOf, zerosN] <;> omega
theorem zeros_turn : ∀ L : List Int, zerosN (turnL L) = zerosN L + manyOf 2 L
  | [] => rfl
  | x :: l => by
    have := zeros_turn l
    rw [turnL] at this
    by_cases h2 : x = 2
    · subst h2; simp [turnL, zerosN, manyOf, this]; omega
    · by_cases h0 : x = 0
      · subst h0; simp [turnL, zerosN, manyOf, this]; omega
      · simp [turnL, zerosN, manyOf, this, h2, h0]
theorem take_ways (L : List Int) : (takeN L = 0 ∧ takeE L = 4 ∧ zerosN L = 0) ∨ ∃ i : Nat, takeN L = i ∧ takeE L = 0 ∧ L[i]? = some 0 ∧ zerosN (takeL L) + 1 = zerosN L := by
  cases hf : findZ L with
  | none => have := take_none hf; exact .inl ⟨this.1, this.2.1, find_none hf⟩
  | some i =>
    obtain ⟨e1, e2, e3⟩ := take_some hf
    have := find_some hf
    exact .inr ⟨i, e1, e2, this.1, by rw [e3]; exact zeros_set L i 1 this.1 (by decide)⟩
theorem set_ways (L : List Int) (n : Int) : setE L n = 1 ∨ setE L n = 0 ∧ zerosN (setL L n 2) = zerosN L ∧ zerosN (setL L n 0) = zerosN L + 1 := by
  unfold setE setL
  cases hu : usedB L n
  · exact .inl rfl
  · have h := hu
    unfold usedB at h
    simp only [Bool.and_eq_true, decide_eq_true_eq, beq_iff_eq] at h
    exact .inr ⟨rfl, zeros_same L _ 1 2 h.2 (by decide) (by decide), zeros_back L _ 1 h.2 (by decide)⟩
theorem three_of {Sp : World → List Nat → Nat → List Int → Prop} {W w0 w : World} {K : List Nat} {a : Nat} {L : List Int} (P : P13 W Sp) (h : SpK Sp W w0 w K a L) : three L := by
  obtain ⟨F, h1, -⟩ := h.sp
  exact P.three h1
set_option maxHeartbeats 16000000 in
theorem parts_law {W : World} {Sp : World → List Nat → Nat → List Int → Prop} (P : P13 W Sp) (pages : Int) (hp : okInt pages) (oa : Option Addr) (on oc : Nat) (os : List Op3) (hi : InT W oa os) (hall : ∀ o ∈ os, o.ok) (hn : os.length = on) (hsm : on ≤ 140737488355328) :
    Calls Try.prog 4 #[.int .i64 pages, .slice oa on oc] W fun e w' => e = .returned (.bool true) ∧ Below W.heap.size W w' := by
  have HP := Lib.hid P
  have HI := Lib.hid (And.intro hi (And.intro hall hn))
  clear P hi hall hn
  go_enter Try.func4, Try.ntmps4
  go_wp2_with fail
  refine (awake13_any HP.out W (Below.refl _ _)).mono ?_
  rintro e w1 ⟨rfl, b1⟩
  have B1 := Lib.hid b1
  clear b1
  go_wp2_with fail
  refine (new_at HP.out B1.out B1.out pages none 0 0 [] hp (InI.nil _ _) rfl (Nat.le_refl _) (by decide) (by omega) (fun _ => ⟨rfl, rfl⟩) (fun _ h => by cases h)).mono ?_
  rintro e w2 (⟨h1, rfl, b2, -⟩ | ⟨M, sa, h1, rfl, S2⟩)
  · have B2 := Lib.hid b2
    have hbad : ¬ (1 ≤ pages ∧ pages ≤ 65536) := fun hp => by unfold newP at h1; rw [if_pos hp] at h1; cases h1
    clear b2 h1
    by_cases hlow : pages < 1
    · go_wp2_with fail
      go_ret
      exact ⟨rfl, B2.out⟩
    · have hup : pages > 65536 := by omega
      go_wp2_with fail
      go_ret
      exact ⟨rfl, B2.out⟩
  have hM := newP_is h1
  have hlen : (M.length : Int) = pages := hM.2.2.1
  have hmax : 1 ≤ M.length ∧ M.length ≤ 65536 := by omega
  clear h1 hM
  have S2 := Lib.hid S2
  go_wp2_with fail
  go_loopw [8] (fun i wr => ∃ (k : Nat), k ≤ on ∧ k ≤ 100 ∧ i = .int .i64 (k : Int) ∧ Hid (∃ L : List Int, L.length = M.length ∧ SpK Sp W W wr [] sa L)) (fun i _ => 100 - (intOf i).toNat)
  case atStart => exact ⟨0, Nat.zero_le _, by omega, rfl, Lib.hid ⟨M, rfl, S2.out.off⟩⟩
  case round =>
    obtain ⟨k, hk1, hk2, rfl, HK⟩ := hrel
    obtain ⟨L, hL, hS⟩ := HK.out
    have HS := Lib.hid hS
    by_cases hlt : k < on ∧ k < 100
    · obtain ⟨q1, q2⟩ := hlt
      have hsum := many_sum (three_of HP.out HS.out)
      have hl1 := areL_len 1 L
      have hl2 := areL_len 2 L
      clear hS HK
      go_wp2_with fail
      refine (HS.out.used HP.out (Nat.le_refl _)).mono ?_
      rintro e w3 ⟨v1, v2, rfl, S3, -, o1, o2, hoff⟩
      have S3 := Lib.hid S3
      have R3 := Lib.hid (And.intro o1 o2)
      obtain ⟨a1, d1, rfl, -, -, -, -⟩ := o1.shape
      obtain ⟨a2, d2, rfl, -, -, -, -⟩ := o2.shape
      clear o1 o2 HS hoff
      go_wp2_with fail
      refine (S3.out.step (Nat.le_refl _) (fun F hF => HP.out.free F sa L _ S3.out.top hF)).mono ?_
      rintro e w4 ⟨rfl, S4, st⟩
      have R4 := Lib.hid (And.intro (R3.out.1.stay st (fun g hg => by simp [hg])) (R3.out.2.stay st (fun g hg => by simp [hg])))
      have S4 := Lib.hid S4
      clear st S3 R3
      obtain ⟨bo, oo, x, rfl, hx, c0, c1, c2⟩ := HI.out.1.one S4.out.top (j := k) (by rw [HI.out.2.2]; exact q1)
      have hok := HI.out.2.1 x (List.mem_of_getElem? hx)
      clear c0
      generalize hz : zerosN L = z at *
      generalize hm1 : manyOf 1 L = m1 at *
      generalize hm2 : manyOf 2 L = m2 at *
      rw [hl1, hl2] at *
      by_cases ha : x.act = 0
      · rw [ha] at c1
        go_wp2_with fail
        refine (S4.out.step (Nat.le_refl _) (fun F hF => HP.out.take F sa L _ S4.out.top hF)).mono ?_
        rintro e w5 ⟨rfl, S5, st⟩
        have R5 := Lib.hid (And.intro (R4.out.1.stay st (fun g hg => by simp [hg])) (R4.out.2.stay st (fun g hg => by simp [hg])))
        have HF5 : Hid (∃ L : List Int, L.length = M.length ∧ SpK Sp W W w5 [] sa L) := Lib.hid ⟨_, (takeL_len L).trans hL, S5.fewer (fun _ h => by cases h)⟩
        have S5 := Lib.hid S5
        clear st S4 R4
        rcases take_ways L with ⟨e1, e2, e3⟩ | ⟨t, e1, e2, e3, e4⟩
        · rw [e1, e2]
          rw [hz] at e3
          subst e3
          go_wp2_with fail
          go_roundw
          case rel => exact ⟨k + 1, by omega, by omega, by go_num, HF5⟩
          case measure => simp [intOf]; omega
        · rw [e1, e2]
          have ht := lt_of_get e3
          rw [hz] at e4
          have HE := Lib.hid e3
          clear e1 e2 e3 c1 c2
          go_wp2_with fail
          go_loopw [14] (fun i wr => ∃ r : Nat, r ≤ m1 ∧ i = .int .i64 (r : Int) ∧ w5 = wr) (fun i _ => m1 - (intOf i).toNat)
          case atStart => exact ⟨0, Nat.zero_le _, rfl, rfl⟩
          case round =>
            obtain ⟨r, hr, rfl, rfl⟩ := hrel
            by_cases hlt : r < m1
            · obtain ⟨a1', d1', e5, hin, -, -, -⟩ := R5.out.1.shape
              injection e5 with e5
              subst e5
              obtain ⟨b1, o1, y, rfl, hy, hc⟩ := hin.one (i := r) (by rw [areL_len, hm1]; exact hlt)
              obtain ⟨i, ey, hyi⟩ := are_mem (List.mem_of_getElem? hy)
              have hne : y ≠ (t : Int) := fun h => by
                have h7 := HE.out
                rw [show i = t by omega] at hyi
                rw [hyi] at h7; cases h7
              clear hin hy hyi ey
              go_wp2_with fail
              go_roundw
              case rel => exact ⟨r + 1, by omega, by go_num, by trivial⟩
              case measure => simp [intOf]; omega
            · have hr2 : r = m1 := by omega
              subst hr2
              clear hlt hr
              go_wp2_with fail
              go_loopw [15] (fun i wr => ∃ r : Nat, r ≤ m2 ∧ i = .int .i64 (r : Int) ∧ w5 = wr) (fun i _ => m2 - (intOf i).toNat)
              case atStart => exact ⟨0, Nat.zero_le _, rfl, rfl⟩
              case round =>
                obtain ⟨q, hq, rfl, rfl⟩ := hrel
                by_cases hlt : q < m2
                · obtain ⟨a2', d2', e5, hin, -, -, -⟩ := R5.out.2.shape
                  injection e5 with e5
                  subst e5
                  obtain ⟨b1, o1, y, rfl, hy, hc⟩ := hin.one (i := q) (by rw [areL_len, hm2]; exact hlt)
                  obtain ⟨i, ey, hyi⟩ := are_mem (List.mem_of_getElem? hy)
                  have hne : y ≠ (t : Int) := fun h => by
                    have h7 := HE.out
                    rw [show i = t by omega] at hyi
                    rw [hyi] at h7; cases h7
                  clear hin hy hyi ey
                  go_wp2_with fail
                  go_roundw
                  case rel => exact ⟨q + 1, by omega, by go_num, by trivial⟩
                  case measure => simp [intOf]; omega
                · have hq2 : q = m2 := by omega
                  subst hq2
                  generalize hz1 : zerosN (takeL L) = z1 at *
                  go_wp2_with fail
                  refine (S5.out.step (Nat.le_refl _) (fun F hF => HP.out.free F sa _ _ S5.out.top hF)).mono ?_
                  rintro e w6 ⟨rfl, S6, -⟩
                  have HF6 : Hid (∃ L : List Int, L.length = M.length ∧ SpK Sp W W w6 [] sa L) := Lib.hid ⟨_, (takeL_len L).trans hL, S6.fewer (fun _ h => by cases h)⟩
                  rw [hz1, show (z1 : Int) = (z : Int) - 1 by omega]
                  go_wp2_with fail
                  go_roundw
                  case rel => exact ⟨k + 1, by omega, by omega, by go_num, HF6⟩
                  case measure => simp [intOf]; omega
      · by_cases ha1 : x.act = 1
        · rw [ha1] at c1
          go_wp2_with fail
          refine (S4.out.step (Nat.le_refl _) (fun F hF => HP.out.drop F sa L x.n _ S4.out.top hF hok.n)).mono ?_
          rintro e w5 ⟨rfl, S5, -⟩
          have HF5 : Hid (∃ L : List Int, L.length = M.length ∧ SpK Sp W W w5 [] sa L) := Lib.hid ⟨_, (setL_len L _ _).trans hL, S5.fewer (fun _ h => by cases h)⟩
          have S5 := Lib.hid S5
          rcases set_ways L x.n with hw | ⟨hw, hw2, -⟩
          · rw [hw]
            go_wp2_with fail
            go_roundw
            case rel => exact ⟨k + 1, by omega, by omega, by go_num, HF5⟩
            case measure => simp [intOf]; omega
          · rw [hw]
            go_wp2_with fail
            refine (S5.out.step (Nat.le_refl _) (fun F hF => HP.out.free F sa _ _ S5.out.top hF)).mono ?_
            rintro e w6 ⟨rfl, S6, -⟩
            have HF6 : Hid (∃ L : List Int, L.length = M.length ∧ SpK Sp W W w6 [] sa L) := Lib.hid ⟨_, (setL_len L _ _).trans hL, S6.fewer (fun _ h => by cases h)⟩
            rw [hw2, hz]
            go_wp2_with fail
            go_roundw
            case rel => exact ⟨k + 1, by omega, by omega, by go_num, HF6⟩
            case measure => simp [intOf]; omega
        · by_cases ha2 : x.act = 2
          · rw [ha2] at c1
            go_wp2_with fail
            refine (S4.out.step (Nat.le_refl _) (fun F hF => HP.out.back F sa L x.n _ S4.out.top hF hok.n)).mono ?_
            rintro e w5 ⟨rfl, S5, -⟩
            have HF5 : Hid (∃ L : List Int, L.length = M.length ∧ SpK Sp W W w5 [] sa L) := Lib.hid ⟨_, (setL_len L _ _).trans hL, S5.fewer (fun _ h => by cases h)⟩
            have S5 := Lib.hid S5
            rcases set_ways L x.n with hw | ⟨hw, -, hw2⟩
            · rw [hw]
              go_wp2_with fail
              go_roundw
              case rel => exact ⟨k + 1, by omega, by omega, by go_num, HF5⟩
              case measure => simp [intOf]; omega
            · rw [hw]
              go_wp2_with fail
              refine (S5.out.step (Nat.le_refl _) (fun F hF => HP.out.free F sa _ _ S5.out.top hF)).mono ?_
              rintro e w6 ⟨rfl, S6, -⟩
              have HF6 : Hid (∃ L : List Int, L.length = M.length ∧ SpK Sp W W w6 [] sa L) := Lib.hid ⟨_, (setL_len L _ _).trans hL, S6.fewer (fun _ h => by cases h)⟩
              rw [hw2, hz]
              go_wp2_with fail
              go_roundw
              case rel => exact ⟨k + 1, by omega, by omega, by go_num, HF6⟩
              case measure => simp [intOf]; omega
          · by_cases ha3 : x.act = 3
            · rw [ha3] at c1
              go_wp2_with fail
              refine (S4.out.step (Nat.le_refl _) (fun F hF => HP.out.turn F sa L _ S4.out.top hF)).mono ?_
              rintro e w5 ⟨rfl, S5, -⟩
              have S5 := Lib.hid S5
              rw [hm2]
              go_wp2_with fail
              refine (S5.out.step (Nat.le_refl _) (fun F hF => HP.out.free F sa _ _ S5.out.top hF)).mono ?_
              rintro e w6 ⟨rfl, S6, -⟩
              have HF6 : Hid (∃ L : List Int, L.length = M.length ∧ SpK Sp W W w6 [] sa L) := Lib.hid ⟨_, (turnL_len L).trans hL, S6.fewer (fun _ h => by cases h)⟩
              rw [zeros_turn, hz, hm2]
              go_wp2_with fail
              go_roundw
              case rel => exact ⟨k + 1, by omega, by omega, by go_num, HF6⟩
              case measure => simp [intOf]; omega
            · go_wp2_with fail
              go_roundw
              case rel => exact ⟨k + 1, by omega, by omega, by go_num, Lib.hid ⟨L, hL, S4.out.fewer (fun _ h => by cases h)⟩⟩
              case measure => simp [intOf]; omega
    · go_wp2_with fail
      all_goals
        go_ret
        exact ⟨rfl, HS.out.low⟩
end Go.Proofs.Yteoekfmjlmpmgaa
