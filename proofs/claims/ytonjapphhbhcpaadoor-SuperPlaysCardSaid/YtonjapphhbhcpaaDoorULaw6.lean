/- The law SuperPlays over the contracts. No statement is proved here. -/
import Derived.Test.YtonjapphhbhcpaaDoorUDoes
import Derived.Test.YtonjapphhbhcpaaDoorTight
import Derived.Deep.CutRange
namespace Go.Proofs.YtonjapphhbhcpaaDoor
open Go.RowKit
set_option maxRecDepth 100000

theorem QSt.tight {W w : World} {bx hx gx br gr N : Nat} {d : Dk} (s : QSt W w bx hx gx br gr N d) (h : d.brief) : QSt W w bx hx gx br gr (d.many + 8) d :=
  { s with box := s.box.tight h.2, ref := s.ref.tight h.2 }
set_option maxHeartbeats 8000000 in
theorem splays_law {W : World} (P : P14 W) (D : P14D W) (hE : ErrT W) (pages : Int) (hs : okInt pages) (oa : Option Addr) (on oc : Nat) (os : List OpU) (hin : InOU W oa os) (hall : ∀ o ∈ os, o.In W) (hn : os.length = on) (hsm : on ≤ 140737488351232) :
    Calls Tryd.prog 5 #[.int .i64 pages, .slice oa on oc] W fun e w' => e = .returned (.bool true) ∧ Below W.heap.size W w' := by
  have HP := Lib.hid (And.intro P (And.intro D hE))
  have HI := Lib.hid (And.intro hin (And.intro hall hn))
  unfold okInt at hs
  clear P D hE hin hall hn
  go_enter Tryd.func5, Tryd.ntmps5
  go_wp2_with fail
  refine (awake14_any HP.out.1 W (Below.refl _ _)).mono ?_
  rintro e w1 ⟨rfl, b1⟩
  have B1 := Lib.hid b1
  clear b1
  go_upto_region 2 with fail
  go_cut [6] from 14 to 17 (fun v wx => ∃ m : Nat, m ≤ 240 ∧ v = .int .i64 (m : Int) ∧ wx = w1)
  case first =>
    go_wp2_with fail
    all_goals go_meet
    all_goals first
      | exact ⟨0, by omega, rfl, rfl⟩
      | exact ⟨240, by omega, rfl, rfl⟩
      | exact ⟨(8 * min (max pages 0) 30).toNat, by omega, by rw [Int.toNat_of_nonneg (by omega)], rfl⟩
      | exact ⟨(8 * pages).toNat, by omega, by rw [Int.toNat_of_nonneg (by omega)], rfl⟩
  case rest =>
    obtain ⟨m, hm, rfl, rfl⟩ := hcut
    go_wp2_with fail
    refine (new_any m (by omega) _).mono ?_
    rintro e w2 ⟨hx, gx, rfl, hh, -, hbox, b2⟩
    have H2 := Lib.hid (And.intro b2 (And.intro hh hbox))
    clear hh hbox b2
    go_wp2_with fail
    refine (rnew_any m (by omega) w2).mono ?_
    rintro e w3 ⟨gr, rfl, href, b3⟩
    have HS0 : Hid (∃ bx br, QSt W w3 bx hx gx br gr (m + 8) (Dk.new m)) := Lib.hid ⟨_, _, { box := (H2.out.2.2.then_ b3).more (by omega), hand := (b3.block _ (lt_of_block H2.out.2.1)).trans H2.out.2.1, ref := href.more (by omega), bytes := Dk.allB.new m, below := (B1.out.trans (H2.out.1.mono B1.out.size)).trans (b3.mono (Nat.le_trans B1.out.size H2.out.1.size)), wb := B1.out.size, wr := Nat.le_trans B1.out.size H2.out.1.size }⟩
    obtain ⟨bx, br, hs0⟩ := HS0.out
    have HS := Lib.hid hs0
    clear hs0 HS0 href b3 H2 B1
    go_wp2_with fail
    go_loopw [9, 10] (fun i _ wr => ∃ j : Nat, j ≤ on ∧ i = .int .i64 (j : Int) ∧ Hid (∃ d, d.many = m ∧ d.brief ∧ QSt W wr bx hx gx br gr (m + 8) d)) (fun i _ _ => on - (intOf i).toNat)
    case atStart => exact ⟨0, Nat.zero_le _, rfl, Lib.hid ⟨_, rfl, Dk.brief_new m, HS.out⟩⟩
    case round =>
      obtain ⟨j, hj, rfl, HK⟩ := hrel
      obtain ⟨d, hdm, hbr, hst⟩ := HK.out
      have HBR := Lib.hid hbr
      clear hbr
      have HT := Lib.hid hst
      by_cases hlt : j < on
      · obtain ⟨o, hoo⟩ : ∃ o, os[j]? = some o := ⟨_, List.getElem?_eq_getElem (by rw [HI.out.2.2]; exact hlt)⟩
        obtain ⟨bo, oo, rfl, hc⟩ := HI.out.1 j o hoo
        have HO := Lib.hid (HI.out.2.1 o (List.mem_of_getElem? hoo))
        have cc := fun i v (hv : o.cells[i]? = some v) => (hst.below.cell (p := ⟨bo, oo + j * 9 + i, none⟩) (cell_lt (hc i v hv))).trans (hc i v hv)
        have c0 := cc 0 _ rfl
        have c1 := cc 1 _ rfl
        have c2 := cc 2 _ rfl
        have c3 := cc 3 _ rfl
        have c4 := cc 4 _ rfl
        have c5 := cc 5 _ rfl
        have c6 := cc 6 _ rfl
        have c7 := cc 7 _ rfl
        have c8 := cc 8 _ rfl
        rw [Nat.add_zero] at c0
        have HD := Lib.hid (udoes_any HP.out.2.1 HP.out.2.2 hx gx gr bx br (m + 8) d _ HT.out o HO.out (by omega))
        clear cc hc hoo hst
        go_wp2_with fail
        refine HD.out.mono ?_
        rintro e w5 ⟨rfl, d2, hm2, hb2, hs2⟩
        have HF : Hid (∃ d, d.many = m ∧ d.brief ∧ QSt W w5 bx hx gx br gr (m + 8) d) := Lib.hid ⟨d2, hm2.trans hdm, hb2 HBR.out, by have h := hs2.tight (hb2 HBR.out); rw [hm2.trans hdm] at h; exact h⟩
        clear hs2 hm2 hb2 HD c0 c1 c2 c3 c4 c5 c6 c7 c8
        go_wp2_with fail
        go_roundw
        case rel => exact ⟨j + 1, by omega, by go_num, HF⟩
        case measure => simp [intOf]; omega
      · have hje : j = on := by omega
        subst hje
        clear hj hlt hst HK
        go_wp2_with fail
        go_loopw [11, 12] (fun i _ wr => ∃ k : Nat, k ≤ m ∧ k ≤ 16 ∧ i = .int .i64 (k : Int) ∧ Hid (QSt W wr bx hx gx br gr (m + 8) d)) (fun i _ _ => 16 - (intOf i).toNat)
        case atStart => exact ⟨0, Nat.zero_le _, Nat.zero_le _, rfl, HT⟩
        case round =>
          obtain ⟨k, hk, hk16, rfl, HK⟩ := hrel
          replace HK := Lib.hid HK
          by_cases hlt : k < m ∧ k < 16
          · obtain ⟨hlt1, hlt2⟩ := hlt
            have HSE := Lib.hid (sector_any hx gx k _ bx (m + 8) d (by omega) (row_cells HK.out.hand 0) HK.out.box)
            go_wp2_with fail
            refine HSE.out.mono ?_
            rintro e w5 ⟨v, rfl, hv, hb5⟩
            have H5 := Lib.hid (And.intro hv (HK.out.then_ hb5))
            clear hv hb5
            obtain ⟨b5, c5, rfl, -, -⟩ := H5.out.1.form
            have HLK := Lib.hid (rlook_any gr k w5.drew br (m + 8) d (by omega) (H5.out.2.ref.then_ (Below.refl _ w5).drew) (by omega))
            have s1 := run_str w5.drew (some ⟨b5, 0, none⟩) _ c5 (d.look k) rfl (OwnB.row (H5.out.1.1.then_ (Below.refl _ w5).drew)) (fun e => by cases e)
            go_wp2_with fail
            go_region_law (refine step_call (o := { dst := some 53, op := _, type := _, pos := _, after := _, guard := none }) rfl 23 #[.pointer (some ⟨gr, 0, none⟩), .int .i64 (k : Int)] (by go_simp) (HLK.out.mono ?_); rintro e w6 ⟨u, rfl, hu, hb6⟩; obtain ⟨b6, c6, rfl, -, -⟩ := hu.form; have H6 := Lib.hid (And.intro hu (H5.out.2.then_ ((Below.refl _ w5).drew.trans hb6))); have s2 := run_str w6 (some ⟨b6, 0, none⟩) _ c6 (d.look k) rfl (OwnB.row hu.1) (fun e => by cases e); have s3 := run_str w6 (some ⟨b5, 0, none⟩) _ c5 (d.look k) rfl (OwnB.row ((H5.out.1.1.then_ (Below.refl _ w5).drew).then_ hb6)) (fun e => by cases e); clear hu hb6; refine ⟨_, rfl, ?_⟩)
            all_goals
              go_wp2_with fail
              go_roundw
              case rel => exact ⟨k + 1, by omega, by omega, by go_num, H6.out.2⟩
              case measure => simp [intOf]; omega
          · have hor : ¬ k < m ∨ (k < m ∧ ¬ k < 16) := by omega
            rcases hor with hn1 | ⟨hn1, hn2⟩
            all_goals
              clear hlt
              go_wp2_with fail
              go_ret
              exact ⟨by simp, HK.out.below⟩
end Go.Proofs.YtonjapphhbhcpaaDoor
