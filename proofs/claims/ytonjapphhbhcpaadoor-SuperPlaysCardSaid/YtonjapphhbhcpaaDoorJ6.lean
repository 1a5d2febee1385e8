/- The document's own disk: Sync. The document's own disk: a loss of power. The document's own disk: a sector as it is read. The document's own disk: Read. No statement is proved here. -/
import Derived.Test.YtonjapphhbhcpaaDoorJ5
import Derived.Test.YtonjapphhbhcpaaDoorJ4
import Derived.Test.YtonjapphhbhcpaaDoorJ10
import Derived.Test.YtonjapphhbhcpaaDoorJ2
namespace Go.Proofs.YtonjapphhbhcpaaDoor
open Go.RowKit
set_option maxRecDepth 100000

theorem ranswer_any (down : Bool) (w : World) : Calls Tryd.prog 85 #[.bool down] w fun e w' => e = .returned (.int .i64 (if down then 5 else 0)) ∧ w' = w := by
  cases down
  · go_enter Tryd.func85, Tryd.ntmps85
    go_wp2_with fail
    go_ret
    exact ⟨rfl, rfl⟩
  · go_enter Tryd.func85, Tryd.ntmps85
    go_wp2_with fail
    go_ret
    exact ⟨rfl, rfl⟩
set_option maxHeartbeats 4000000 in
theorem rsync_any (g : Nat) (w : World) (B N : Nat) (d : Dk) (hb : RefAt w B g d N) (hN : N ≤ 549755813888) :
    Calls Tryd.prog 66 #[.pointer (some ⟨g, 0, none⟩)] w fun e w' => e = .returned (.int .i64 d.syncE) ∧ RefAt w' B g d.sync N ∧ Turns TR B w w' := by
  have HA := Lib.hid (ract_any g w B N d hb)
  have HD := Lib.hid hb
  obtain ⟨hok, s, hb⟩ := hb
  have c6 := (hb.cells 6).trans (refC_get d s.sv s.wv).2.2.2.2.2.2
  cases hdn : d.down
  · rw [hdn] at c6
    clear hok hb
    go_enter Tryd.func66, Tryd.ntmps66
    go_wp2_with fail
    refine HA.out.mono ?_
    rintro e w1 ⟨rfl, hr1, ht1⟩
    have T1 := Lib.hid ht1
    have R1 := Lib.hid hr1
    clear hr1 ht1 c6
    obtain ⟨er, her⟩ : ∃ er, er = (if d.goes then (5 : Int) else 0) := ⟨_, rfl⟩
    have HAN := Lib.hid (fun w => ranswer_any d.goes w)
    rw [← her] at HAN
    have HSE : Hid (d.syncE = er) := Lib.hid (by unfold Dk.syncE Dk.errA; rw [hdn, her]; rfl)
    generalize hgb : d.goes = gb at HAN ⊢
    clear her hgb
    cases hds : d.does
    · have HX : Hid (d.sync = d.acted) := Lib.hid (by unfold Dk.sync; rw [hdn, hds]; rfl)
      go_wp2_with fail
      refine (HAN.out w1).mono ?_
      rintro e w2 ⟨rfl, rfl⟩
      go_wp2_with fail
      go_ret
      refine ⟨show Ending.returned (.int .i64 er) = _ by rw [HSE.out], ?_, T1.out⟩
      rw [HX.out]
      exact R1.out
    · have HX : Hid (d.sync = d.acted.settle) := Lib.hid (by unfold Dk.sync; rw [hdn, hds]; rfl)
      obtain ⟨hok1, s1, hb1⟩ := R1.out
      have HB1 := Lib.hid (And.intro hb1 hok1)
      generalize d.acted = d1 at HX HB1 hb1 hok1 ⊢
      have c2 := (hb1.cells 2).trans (refC_get d1 s1.sv s1.wv).2.2.1
      obtain ⟨wa, wc, hwv, hwin⟩ := hb1.waitIn
      have HWV := Lib.hid (And.intro hwv hwin)
      rw [hwv] at c2
      have hnum := hb1.num
      have hnw : d1.wait.length ≤ 549755813888 := by omega
      clear hb1 hok1 hwv hwin hds hdn HD
      go_wp2_with fail
      go_loopw [5] (fun i wr => ∃ (j : Nat) (sj : RSpot), j ≤ d1.wait.length ∧ i = .int .i64 (j : Int) ∧ Hid (RefOf wr B g (d1.part j) (N + j) sj ∧ sj.wv = s1.wv ∧ sj.vs = s1.vs ∧ sj.ls.length ≤ s1.ls.length + j ∧ Turns TR B w1 wr)) (fun i _ => d1.wait.length - (intOf i).toNat)
      case atStart => exact ⟨0, s1, by omega, rfl, HB1.out.1, rfl, rfl, by omega, Turns.refl _ _ _⟩
      case round =>
        obtain ⟨j, sj, hj, rfl, HK⟩ := hrel
        replace HK := Lib.hid HK
        have hgl := HK.out.1.lt
        have k2 := (HK.out.1.cells 2).trans (refC_get _ sj.sv sj.wv).2.2.1
        rw [HK.out.2.1, HWV.out.1] at k2
        by_cases hlt : j < d1.wait.length
        · obtain ⟨p, hp⟩ : ∃ p, d1.wait[j]? = some p := ⟨_, List.getElem?_eq_getElem hlt⟩
          obtain ⟨wa', wc', ew', hin'⟩ := HK.out.1.waitIn
          obtain ⟨ga, v, ea, hrow, hgal, e1, e2⟩ := hin' j p hp
          subst ea
          have ewa : wa = some ⟨ga, 0, none⟩ ∧ wc = wc' := by
            have := HWV.out.1.symm.trans (HK.out.2.1.symm.trans ew')
            injection this with t1 t2 t3
            exact ⟨t1, t3⟩
          obtain ⟨rfl, rfl⟩ := ewa
          obtain ⟨b, m, cv, rfl⟩ := find_row hrow
          have HP := Lib.hid (And.intro hp hrow)
          rw [Nat.mul_comm 2 j] at e1 e2
          obtain ⟨sa, sc, hsv⟩ := rowS_form HK.out.1.safeR
          have k1 := (HK.out.1.cells 1).trans (refC_get _ sj.sv sj.wv).2.1
          have hkm := (HB1.out.2.rowW p (List.mem_of_getElem? hp)).2
          have hmm := HB1.out.1.many
          have hls := HK.out.2.2.2.1
          have HKd := Lib.hid (HK.out.1.turns (T := fun _ => False) (B' := 0) (Turns.of_below (Nat.zero_le _) (Below.refl _ wr).drew) (fun _ h => h) (fun _ h => h) (fun _ h => h))
          have HL := Lib.hid (rlaid_any p.1 p.2 b m cv sa sj.ls.length sc sj.ls sj.us wr.drew B (by omega) (by rw [← hsv]; exact HKd.out.safeR) rfl HK.out.1.ulen (by omega) (Nat.le_trans HK.out.1.gB (Nat.le_of_lt HK.out.1.lt)))
          have HSV := Lib.hid hsv
          rw [hsv] at k1
          clear hin' hp hrow ew' hsv
          go_wp2_with fail
          go_region_law (first
            | (refine step_call rfl 68 #[.slice sa sj.ls.length sc, .agg #[.int .i64 (p.1 : Int), .slice (some ⟨b, 0, none⟩) m cv]] (by go_simp) (HL.out.mono ?_); rintro e w3 ⟨v', us', rfl, p1, p2, p3, p4, p5⟩; obtain ⟨va, vc, rfl⟩ := rowS_form p1; rw [← HSV.out] at p4 p5; have H4 := Lib.hid (HKd.out.lay (HP.out.2.then_ (Below.refl _ wr).drew) ⟨p1, p2, p3, p4, p5⟩); have hb3 : w3.heap[g]? = some (.cells (refC (d1.part j) sj.sv sj.wv) 83) := (p4.block g HK.out.1.lt (fun e => row_off HK.out.1 HK.out.1.safeR g e.symm rfl)).trans HK.out.1.box; have k13 : w3.cell? ⟨g, 1, none⟩ = some sj.sv := row_cells hb3 1; have f13 : w3.frozen? ⟨g, 1, none⟩ = false := by simp [World.frozen?, hb3]
               clear p1 p2 p3 p4 p5 hb3; refine ⟨_, rfl, ?_⟩))
          all_goals
            go_wp2_with fail
            go_roundw
            case rel =>
              have h4 := H4.out
              rw [Dk.part_next d1 HP.out.1] at h4
              exact ⟨j + 1, _, by omega, by go_num, h4.1, HK.out.2.1, HK.out.2.2.1, (by have h1 := laidL_len sj.ls (p.1, p.2); show (laidL sj.ls (p.1, p.2)).length ≤ s1.ls.length + (j + 1); omega), HK.out.2.2.2.2.trans (Turns.trans ⟨(Below.refl B wr).drew, fun _ _ h _ => h⟩ h4.2)⟩
            case measure => simp [intOf]; omega
        · have hjn : j = d1.wait.length := by omega
          subst hjn
          have f2 := HK.out.1.frozen 2
          have hx := HK.out.1.swapW (N' := N) (Below.refl _ _) (v := .slice none 0 0) (l' := []) (vs := []) (World.ownsRow_nil _ _ _ _) rfl (fun i p u h _ => by simp at h) (by have := HK.out.2.2.2.1; show sj.ls.length + 0 ≤ N; omega)
          have e : ({ d1.part d1.wait.length with wait := [] } : Dk) = d1.settle := by unfold Dk.part Dk.settle; rw [List.take_of_length_le (Nat.le_refl _)]
          rw [e] at hx
          have HY := Lib.hid hx
          clear hx e
          go_wp2_with fail
          refine (HAN.out _).mono ?_
          rintro e w2 ⟨rfl, rfl⟩
          go_wp2_with fail
          go_ret
          refine ⟨show Ending.returned (.int .i64 er) = _ by rw [HSE.out], ?_, T1.out.trans (HK.out.2.2.2.2.trans HY.out.2)⟩
          rw [HX.out]
          exact ⟨Dk.settle_ok HB1.out.2, _, HY.out.1⟩
  · rw [hdn] at c6
    have HX : Hid (d.sync = d ∧ d.syncE = 5) := Lib.hid ⟨by unfold Dk.sync; rw [hdn]; rfl, by unfold Dk.syncE; rw [hdn]; rfl⟩
    clear hok hb
    go_enter Tryd.func66, Tryd.ntmps66
    go_wp2_with fail
    go_ret
    refine ⟨show Ending.returned (.int .i64 5) = _ by rw [HX.out.2], ?_, Turns.refl _ _ _⟩
    rw [HX.out.1]
    exact HD.out
end Go.Proofs.YtonjapphhbhcpaaDoor
namespace Go.Proofs.YtonjapphhbhcpaaDoor
open Go.RowKit
set_option maxRecDepth 100000

theorem rcrash_end {w : World} {B g N : Nat} {d : Dk} {s : RSpot} (h : RefOf w B g d N s) :
    RefOf ((w.setCell ⟨g, 3, none⟩ (.bool false)).setCell ⟨g, 6, none⟩ (.bool false)) B g { d with armed := false, down := false } N s ∧ Turns TR B w ((w.setCell ⟨g, 3, none⟩ (.bool false)).setCell ⟨g, 6, none⟩ (.bool false)) := by
  have h1 := set_heap (i := 3) h.box (.bool false)
  have h2 := set_heap (i := 6) h1 (.bool false)
  refine ⟨?_, ?_⟩
  · refine h.turn (d' := { d with armed := false, down := false }) (fun b' hb' hne => ?_) h2 rfl rfl rfl h.acts
    rw [set_off _ _ hne, set_off _ _ hne]
  · exact ((Turns.refl TR B w).setCell (p := ⟨g, 3, none⟩) h.box (TR_disk _ _) h.gB (.bool false)).setCell (p := ⟨g, 6, none⟩) h1 (TR_disk _ _) h.gB (.bool false)
set_option maxHeartbeats 4000000 in
theorem rcrash_any (g : Nat) (la : Option Addr) (n c : Nat) (bs : List Bool) (w : World) (B N : Nat) (d : Dk) (hb : RefAt w B g d N) (hin : InK w B la bs) (hn : bs.length = n) (hn2 : n ≤ 140737488355328) (hN : N ≤ 549755813888) :
    Calls Tryd.prog 46 #[.pointer (some ⟨g, 0, none⟩), .slice la n c] w fun e w' => e = .returned (.tuple #[]) ∧ RefAt w' B g (d.crash bs) N ∧ Turns TR B w w' := by
  obtain ⟨hok, s, hb⟩ := hb
  have HB1 := Lib.hid (And.intro hb hok)
  have HIN := Lib.hid (And.intro hin hn)
  have c2 := (hb.cells 2).trans (refC_get d s.sv s.wv).2.2.1
  obtain ⟨wa, wc, hwv, hwin⟩ := hb.waitIn
  have HWV := Lib.hid (And.intro hwv hwin)
  rw [hwv] at c2
  have hnum := hb.num
  have hnw : d.wait.length ≤ 549755813888 := by omega
  clear hb hok hwv hwin hin hn
  go_enter Tryd.func46, Tryd.ntmps46
  go_wp2_with fail
  go_loopw [4] (fun i wr => ∃ (j : Nat) (sj : RSpot), j ≤ d.wait.length ∧ i = .int .i64 (j : Int) ∧ Hid (RefOf wr B g (d.kept bs j) (N + j) sj ∧ sj.wv = s.wv ∧ sj.vs = s.vs ∧ sj.ls.length ≤ s.ls.length + j ∧ Turns TR B w wr)) (fun i _ => d.wait.length - (intOf i).toNat)
  case atStart => exact ⟨0, s, by omega, rfl, HB1.out.1, rfl, rfl, by omega, Turns.refl _ _ _⟩
  case round =>
    obtain ⟨j, sj, hj, rfl, HK⟩ := hrel
    replace HK := Lib.hid HK
    have hgl := HK.out.1.lt
    have k2 := (HK.out.1.cells 2).trans (refC_get _ sj.sv sj.wv).2.2.1
    rw [HK.out.2.1, HWV.out.1] at k2
    by_cases hlt : j < d.wait.length
    · obtain ⟨p, hp⟩ : ∃ p, d.wait[j]? = some p := ⟨_, List.getElem?_eq_getElem hlt⟩
      by_cases hkp : bs[j]? = some true
      · have hjn : j < n := by have := lt_of_get hkp; rw [HIN.out.2] at this; exact this
        obtain ⟨bk, ok, eb, hbk, hck⟩ := HIN.out.1 j true hkp
        subst eb
        have hck2 : wr.cell? ⟨bk, ok + j, none⟩ = some (.bool true) := (HK.out.2.2.2.2.below.cell (p := ⟨bk, ok + j, none⟩) hbk).trans hck
        have hdl : decide ((j : Int) < (n : Int)) = true := by simp; omega
        obtain ⟨wa', wc', ew', hin'⟩ := HK.out.1.waitIn
        obtain ⟨ga, v, ea, hrow, hgal, e1, e2⟩ := hin' j p hp
        subst ea
        have ewa : wa = some ⟨ga, 0, none⟩ ∧ wc = wc' := by
          have := HWV.out.1.symm.trans (HK.out.2.1.symm.trans ew')
          injection this with t1 t2 t3
          exact ⟨t1, t3⟩
        obtain ⟨rfl, rfl⟩ := ewa
        obtain ⟨b, m, cv, rfl⟩ := find_row hrow
        have HP := Lib.hid (And.intro hp (And.intro hrow hkp))
        rw [Nat.mul_comm 2 j] at e1 e2
        obtain ⟨sa, sc, hsv⟩ := rowS_form HK.out.1.safeR
        have k1 := (HK.out.1.cells 1).trans (refC_get _ sj.sv sj.wv).2.1
        have hkm := (HB1.out.2.rowW p (List.mem_of_getElem? hp)).2
        have hmm := HB1.out.1.many
        have hls := HK.out.2.2.2.1
        have HKd := Lib.hid (HK.out.1.turns (T := fun _ => False) (B' := 0) (Turns.of_below (Nat.zero_le _) (Below.refl _ wr).drew) (fun _ h => h) (fun _ h => h) (fun _ h => h))
        have HL := Lib.hid (rlaid_any p.1 p.2 b m cv sa sj.ls.length sc sj.ls sj.us wr.drew B (by omega) (by rw [← hsv]; exact HKd.out.safeR) rfl HK.out.1.ulen (by omega) (Nat.le_trans HK.out.1.gB (Nat.le_of_lt HK.out.1.lt)))
        have HSV := Lib.hid hsv
        rw [hsv] at k1
        clear hin' hp hrow ew' hsv hkp hck
        go_wp2_with fail
        go_region_law (first
          | (refine step_call rfl 68 #[.slice sa sj.ls.length sc, .agg #[.int .i64 (p.1 : Int), .slice (some ⟨b, 0, none⟩) m cv]] (by go_simp) (HL.out.mono ?_); rintro e w3 ⟨v', us', rfl, p1, p2, p3, p4, p5⟩; obtain ⟨va, vc, rfl⟩ := rowS_form p1; rw [← HSV.out] at p4 p5; have H4 := Lib.hid (HKd.out.lay (HP.out.2.1.then_ (Below.refl _ wr).drew) ⟨p1, p2, p3, p4, p5⟩); have hb3 : w3.heap[g]? = some (.cells (refC (d.kept bs j) sj.sv sj.wv) 83) := (p4.block g HK.out.1.lt (fun e => row_off HK.out.1 HK.out.1.safeR g e.symm rfl)).trans HK.out.1.box; have k13 : w3.cell? ⟨g, 1, none⟩ = some sj.sv := row_cells hb3 1; have f13 : w3.frozen? ⟨g, 1, none⟩ = false := by simp [World.frozen?, hb3]
             clear p1 p2 p3 p4 p5 hb3; refine ⟨_, rfl, ?_⟩))
        all_goals
          go_wp2_with fail
          go_roundw
          case rel =>
            have h4 := H4.out
            rw [Dk.kept_yes d HP.out.1 HP.out.2.2] at h4
            exact ⟨j + 1, _, by omega, by go_num, h4.1, HK.out.2.1, HK.out.2.2.1, (by have h1 := laidL_len sj.ls (p.1, p.2); show (laidL sj.ls (p.1, p.2)).length ≤ s.ls.length + (j + 1); omega), HK.out.2.2.2.2.trans (Turns.trans ⟨(Below.refl B wr).drew, fun _ _ h _ => h⟩ h4.2)⟩
          case measure => simp [intOf]; omega
      · have HF : Hid (RefOf wr B g (d.kept bs (j + 1)) (N + (j + 1)) sj ∧ sj.wv = s.wv ∧ sj.vs = s.vs ∧ sj.ls.length ≤ s.ls.length + (j + 1) ∧ Turns TR B w wr) := Lib.hid (by
          rw [Dk.kept_no d hp hkp]
          exact ⟨{ HK.out.1 with num := by have := HK.out.1.num; omega }, HK.out.2.1, HK.out.2.2.1, by have := HK.out.2.2.2.1; omega, HK.out.2.2.2.2⟩)
        by_cases hjn : j < n
        · obtain ⟨x, hx⟩ : ∃ x, bs[j]? = some x := ⟨_, List.getElem?_eq_getElem (by rw [HIN.out.2]; exact hjn)⟩
          have hxf : x = false := by
            cases x
            · rfl
            · exact absurd hx hkp
          subst hxf
          obtain ⟨bk, ok, eb, hbk, hck⟩ := HIN.out.1 j false hx
          subst eb
          have hck2 : wr.cell? ⟨bk, ok + j, none⟩ = some (.bool false) := (HK.out.2.2.2.2.below.cell (p := ⟨bk, ok + j, none⟩) hbk).trans hck
          have hdl : decide ((j : Int) < (n : Int)) = true := by simp; omega
          clear hp hkp hx hck
          go_wp2_with fail
          go_roundw
          case rel => exact ⟨j + 1, sj, by omega, by go_num, HF.out⟩
          case measure => simp [intOf]; omega
        · have hdl : decide ((j : Int) < (n : Int)) = false := by simp; omega
          clear hp hkp
          go_wp2_with fail
          go_roundw
          case rel => exact ⟨j + 1, sj, by omega, by go_num, HF.out⟩
          case measure => simp [intOf]; omega
    · have hjn : j = d.wait.length := by omega
      subst hjn
      have f2 := HK.out.1.frozen 2
      have hx := HK.out.1.swapW (N' := N) (Below.refl _ _) (v := .slice none 0 0) (l' := []) (vs := []) (World.ownsRow_nil _ _ _ _) rfl (fun i p u h _ => by simp at h) (by have := HK.out.2.2.2.1; show sj.ls.length + 0 ≤ N; omega)
      have hy := rcrash_end hx.1
      have hz := hy.1.turn (d' := d.crash bs) (fun _ _ _ => rfl) hy.1.box (show over d.safe (stay d.wait bs) = over d.safe (stay (d.wait.take d.wait.length) bs) by rw [List.take_of_length_le (Nat.le_refl _)]) rfl rfl hy.1.acts
      have HY := Lib.hid (show RefAt _ B g (d.crash bs) N ∧ Turns TR B w _ from ⟨⟨Dk.crash_ok HB1.out.2 bs, _, hz⟩, HK.out.2.2.2.2.trans (hx.2.trans hy.2)⟩)
      have k3 : (wr.setCell ⟨g, 2, none⟩ (.slice none 0 0)).cell? ⟨g, 3, none⟩ = _ := row_cells hx.1.box 3
      have f3 := hx.1.frozen 3
      have h3 := set_heap (i := 3) hx.1.box (.bool false)
      have k6 : ((wr.setCell ⟨g, 2, none⟩ (.slice none 0 0)).setCell ⟨g, 3, none⟩ (.bool false)).cell? ⟨g, 6, none⟩ = _ := row_cells h3 6
      have f6 : ((wr.setCell ⟨g, 2, none⟩ (.slice none 0 0)).setCell ⟨g, 3, none⟩ (.bool false)).frozen? ⟨g, 6, none⟩ = false := by simp [World.frozen?, h3]
      clear hx hy hz h3
      go_wp2_with fail
      exact ⟨rfl, .tuple #[], results_void rfl _ _, rfl, HY.out.1, HY.out.2⟩
end Go.Proofs.YtonjapphhbhcpaaDoor
namespace Go.Proofs.YtonjapphhbhcpaaDoor
open Go.RowKit
set_option maxRecDepth 100000

theorem RefOf.safeIn {w : World} {B g N : Nat} {d : Dk} {s : RSpot} (h : RefOf w B g d N s) : ∃ (a : Option Addr) (c : Nat), s.sv = .slice a s.ls.length c ∧ SecsIn w B a s.ls := by
  have h0 := h.safeR
  rcases h0.2 with ⟨hv, hz⟩ | ⟨ga, cap, cur, hv, hB, hg, hle, -⟩
  · refine ⟨none, 0, by rw [hv, hz], fun i p hi => ?_⟩
    have := lt_of_get hi
    omega
  · refine ⟨some ⟨ga, 0, none⟩, cap, hv, fun i p hi => ?_⟩
    have hlt := lt_of_get hi
    have hvi : s.us[i]? = some (s.us[i]'(by rw [h.ulen]; exact hlt)) := List.getElem?_eq_getElem _
    obtain ⟨e1, e2⟩ := waitC_get _ _ h.ulen i p _ hi hvi
    have hw := h0
    rw [hv] at hw
    refine ⟨ga, _, rfl, h.rowsS i p _ hi hvi, lt_of_block hg, ?_, ?_⟩
    · rw [World.ownsRow.cellAt hw (2 * i) (by omega)]; exact e1
    · rw [World.ownsRow.cellAt hw (2 * i + 1) (by omega)]; exact e2
theorem over_mem : ∀ (l : List (Nat × List Int)) (f : Secs), (keysL l).Nodup → ∀ p ∈ l, over f l p.1 = some p.2
  | [], _, _, p, h => by cases h
  | q :: l, f, h, p, hp => by
    have hn : q.1 ∉ keysL l ∧ (keysL l).Nodup := List.nodup_cons.1 h
    rcases List.mem_cons.1 hp with e | hp
    · subst e
      show over (upd f p.1 p.2) l p.1 = _
      rw [over_none hn.1, upd_same]
    · exact over_mem l _ hn.2 p hp
/-- What is read so far: over what was there, the first writes. -/
def lookL (f : Secs) (l : List (Nat × List Int)) (k i : Nat) : List Int := (over f (l.take i) k).getD zeroRow
theorem lookL_yes {f : Secs} {l : List (Nat × List Int)} {i : Nat} {p : Nat × List Int} (h : l[i]? = some p) : lookL f l p.1 (i + 1) = p.2 := by
  unfold lookL
  have e : l.take (i + 1) = l.take i ++ [p] := by rw [List.take_add_one, h]; rfl
  rw [e, over_snoc, upd_same]
  rfl
theorem lookL_no {f : Secs} {l : List (Nat × List Int)} {i k : Nat} {p : Nat × List Int} (h : l[i]? = some p) (hk : p.1 ≠ k) : lookL f l k (i + 1) = lookL f l k i := by
  unfold lookL
  have e : l.take (i + 1) = l.take i ++ [p] := by rw [List.take_add_one, h]; rfl
  rw [e, over_snoc, upd_other _ _ (fun h => hk h.symm)]
theorem lookL_len {f : Secs} {l : List (Nat × List Int)} {n : Nat} (hf : ∀ k r, f k = some r → r.length = 512 ∧ k < n) (hl : ∀ p ∈ l, p.2.length = 512 ∧ p.1 < n) (k i : Nat) : (lookL f l k i).length = 512 := by
  unfold lookL
  cases e : over f (l.take i) k with
  | none => exact List.length_replicate
  | some r => exact (over_rows hf (fun p hp => hl p (List.mem_of_mem_take hp)) k r e).1
theorem spl_whole {L r : List Int} (h : L.length = r.length) : spl L 0 r = r := by
  unfold spl
  rw [List.take_zero, List.nil_append, List.drop_eq_nil_of_le (by omega), List.append_nil]
theorem zeroV_row : zeroV 512 = btV zeroRow := zeroV_bt 512
set_option maxHeartbeats 4000000 in
theorem rlook_any (g k : Nat) (w : World) (B N : Nat) (d : Dk) (hk : k ≤ 9223372036854775807) (hb : RefAt w B g d N) (hN : N ≤ 549755813888) :
    Calls Tryd.prog 23 #[.pointer (some ⟨g, 0, none⟩), .int .i64 (k : Int)] w fun e w' => ∃ v, e = .returned v ∧ RowAt w' w.heap.size v (d.look k) ∧ Below w.heap.size w w' := by
  obtain ⟨hok, s, hb⟩ := hb
  have hnum := hb.num
  have HS1 : Hid (∀ p ∈ s.ls, p.2.length = 512 ∧ p.1 < d.many) := Lib.hid (fun p hp => hok.rowS p.1 p.2 (by rw [hb.isS]; exact over_mem _ _ hb.keys p hp))
  have HW1 : Hid (∀ p ∈ d.wait, p.2.length = 512 ∧ p.1 < d.many) := Lib.hid hok.rowW
  have hmk : ∀ w : World, (Instr.makeSlice 24 (.int .i64 512) (.int .i64 512)).run Tryd.prog w = .ok (.slice (some ⟨w.heap.size, 0, none⟩) 512 512) (w.alloc (.cells (zeroV 512).toArray 5)) := fun w => by have := make_zero 512 (by omega) w; simpa using this
  have HEND : Hid (lookL (over noSecs s.ls) d.wait k d.wait.length = d.look k) := Lib.hid (by
    unfold lookL Dk.look
    rw [List.take_of_length_le (Nat.le_refl _), hok.now k, hb.isS])
  have HB0 := Lib.hid (And.intro hb hok)
  have hgl := hb.lt
  clear hb hok
  go_enter Tryd.func23, Tryd.ntmps23
  go_wp2_with fail
  have F0 : Hid (FullAt (w.alloc (.cells (zeroV 512).toArray 5)) w.heap.size (lookL noSecs s.ls k 0)) := Lib.hid (by unfold FullAt; rw [show lookL noSecs s.ls k 0 = zeroRow from rfl, ← zeroV_row]; exact heap_alloc_new w _)
  have B0 := Lib.hid (below1 w (.cells (zeroV 512).toArray 5))
  have C1 : Hid (∀ w', Below w.heap.size w w' → w'.cell? ⟨g, 1, none⟩ = some s.sv ∧ w'.cell? ⟨g, 2, none⟩ = some s.wv ∧ RefOf w' B g d N s) := Lib.hid (fun w' hb => by
    have h := HB0.out.1.turns (Turns.of_below (T := fun _ => False) (B := 0) (Nat.zero_le _) hb) (fun _ h => h) (fun _ h => h) (fun _ h => h)
    exact ⟨(h.cells 1).trans (refC_get d s.sv s.wv).2.1, (h.cells 2).trans (refC_get d s.sv s.wv).2.2.1, h⟩)
  obtain ⟨sa, sc, hsv, hsin⟩ := HB0.out.1.safeIn
  obtain ⟨wa, wc, hwv, hwin⟩ := HB0.out.1.waitIn
  have HSV := Lib.hid (And.intro hsv (And.intro hwv (And.intro hsin hwin)))
  clear hsin hwin hsv hwv
  go_loopw [6] (fun i wr => ∃ j : Nat, j ≤ s.ls.length ∧ i = .int .i64 (j : Int) ∧ Hid (FullAt wr w.heap.size (lookL noSecs s.ls k j) ∧ Below w.heap.size w wr)) (fun i _ => s.ls.length - (intOf i).toNat)
  case atStart => exact ⟨0, Nat.zero_le _, rfl, F0.out, B0.out⟩
  case round =>
    obtain ⟨j, hj, rfl, HK⟩ := hrel
    replace HK := Lib.hid HK
    obtain ⟨k1, k2, hbr⟩ := C1.out wr HK.out.2
    rw [HSV.out.1] at k1
    by_cases hlt : j < s.ls.length
    · obtain ⟨p, hp⟩ : ∃ p, s.ls[j]? = some p := ⟨_, List.getElem?_eq_getElem hlt⟩
      obtain ⟨ga, v, ea, hrow, hga, e1, e2⟩ := HSV.out.2.2.1 j p hp
      subst ea
      rw [Nat.mul_comm 2 j] at e1 e2
      have q1 := (HK.out.2.cell (p := ⟨ga, j * 2, none⟩) (cell_lt e1)).trans e1
      have q2 := (HK.out.2.cell (p := ⟨ga, j * 2 + 1, none⟩) (cell_lt e2)).trans e2
      obtain ⟨b, m, cv, rfl⟩ := find_row hrow
      have hpl := HS1.out p (List.mem_of_getElem? hp)
      obtain ⟨bb, cb, eb, -, -⟩ := hrow.form
      injection eb with eb1 eb2 eb3
      subst eb2
      have HP := Lib.hid (And.intro hp (And.intro (hrow.then_ HK.out.2) hpl))
      rw [hpl.1] at q2
      clear hp hrow hpl e1 e2 eb1 hbr k2
      by_cases hpk : p.1 = k
      · have hpk2 : ((p.1 : Int) == (k : Int)) = true := by simp [hpk]
        have HLn := Lib.hid (lookL_len (f := noSecs) (n := d.many) (fun _ _ h => by cases h) HS1.out k j)
        go_wp2_with (show wpList _ _ _ (⟨some 37, _, _, _, _, _⟩ :: _) _ _; refine cpF (o := ⟨some 37, _, _, _, _, _⟩) rfl (.tmp 28) (.tmp 36) rfl w.heap.size 0 512 512 _ HK.out.1 rfl (some ⟨b, 0, none⟩) 512 _ p.2 rfl HP.out.2.2.1 (Nat.le_refl _) (OwnB.row HP.out.2.1.1) (by rw [HLn.out]; omega) w.heap.size w HK.out.2 (Nat.le_refl _) ?_; intro w5 f5 b5; have B5 := Lib.hid b5; clear b5)
        go_roundw
        case rel =>
          refine ⟨j + 1, by omega, by go_num, ?_, B5.out⟩
          have := f5.out
          rw [spl_whole (by rw [HLn.out, HP.out.2.2.1])] at this
          rw [← hpk, lookL_yes HP.out.1]
          exact this
        case measure => simp [intOf]; omega
      · have hpk2 : ((p.1 : Int) == (k : Int)) = false := by simp; omega
        go_wp2_with fail
        go_roundw
        case rel => exact ⟨j + 1, by omega, by go_num, by rw [lookL_no HP.out.1 hpk]; exact HK.out.1, HK.out.2⟩
        case measure => simp [intOf]; omega
    · have hje : j = s.ls.length := by omega
      subst hje
      have F1 : Hid (FullAt wr w.heap.size (lookL (over noSecs s.ls) d.wait k 0) ∧ Below w.heap.size w wr) := Lib.hid ⟨by
        have := HK.out.1
        rw [show lookL noSecs s.ls k s.ls.length = lookL (over noSecs s.ls) d.wait k 0 by unfold lookL; rw [List.take_of_length_le (Nat.le_refl _), List.take_zero]; rfl] at this
        exact this, HK.out.2⟩
      clear HK hbr hj hlt
      go_wp2_with fail
      clear k1 k2
      go_loopw [7] (fun i wx => ∃ j : Nat, j ≤ d.wait.length ∧ i = .int .i64 (j : Int) ∧ Hid (FullAt wx w.heap.size (lookL (over noSecs s.ls) d.wait k j) ∧ Below w.heap.size w wx)) (fun i _ => d.wait.length - (intOf i).toNat)
      case atStart => exact ⟨0, Nat.zero_le _, rfl, F1.out⟩
      case round =>
        obtain ⟨j, hj, rfl, HK⟩ := hrel
        replace HK := Lib.hid HK
        rename_i wx
        obtain ⟨k1, k2, hbr⟩ := C1.out _ HK.out.2
        rw [HSV.out.2.1] at k2
        by_cases hlt : j < d.wait.length
        · obtain ⟨p, hp⟩ : ∃ p, d.wait[j]? = some p := ⟨_, List.getElem?_eq_getElem hlt⟩
          obtain ⟨ga, v, ea, hrow, hga, e1, e2⟩ := HSV.out.2.2.2 j p hp
          subst ea
          rw [Nat.mul_comm 2 j] at e1 e2
          have q1 := (HK.out.2.cell (p := ⟨ga, j * 2, none⟩) (cell_lt e1)).trans e1
          have q2 := (HK.out.2.cell (p := ⟨ga, j * 2 + 1, none⟩) (cell_lt e2)).trans e2
          obtain ⟨b, m, cv, rfl⟩ := find_row hrow
          have hpl := HW1.out p (List.mem_of_getElem? hp)
          obtain ⟨bb, cb, eb, -, -⟩ := hrow.form
          injection eb with eb1 eb2 eb3
          subst eb2
          have HP := Lib.hid (And.intro hp (And.intro (hrow.then_ HK.out.2) hpl))
          rw [hpl.1] at q2
          clear hp hrow hpl e1 e2 eb1 hbr k1
          by_cases hpk : p.1 = k
          · have hpk2 : ((p.1 : Int) == (k : Int)) = true := by simp [hpk]
            have HLn := Lib.hid (lookL_len (f := over noSecs s.ls) (n := d.many) (over_rows (fun _ _ h => by cases h) HS1.out) HW1.out k j)
            go_wp2_with (show wpList _ _ _ (⟨some 66, _, _, _, _, _⟩ :: _) _ _; refine cpF (o := ⟨some 66, _, _, _, _, _⟩) rfl (.tmp 57) (.tmp 65) rfl w.heap.size 0 512 512 _ HK.out.1 rfl (some ⟨b, 0, none⟩) 512 _ p.2 rfl HP.out.2.2.1 (Nat.le_refl _) (OwnB.row HP.out.2.1.1) (by rw [HLn.out]; omega) w.heap.size w HK.out.2 (Nat.le_refl _) ?_; intro w5 f5 b5; have B5 := Lib.hid b5; clear b5)
            go_roundw
            case rel =>
              refine ⟨j + 1, by omega, by go_num, ?_, B5.out⟩
              have := f5.out
              rw [spl_whole (by rw [HLn.out, HP.out.2.2.1])] at this
              rw [← hpk, lookL_yes HP.out.1]
              exact this
            case measure => simp [intOf]; omega
          · have hpk2 : ((p.1 : Int) == (k : Int)) = false := by simp; omega
            go_wp2_with fail
            go_roundw
            case rel => exact ⟨j + 1, by omega, by go_num, by rw [lookL_no HP.out.1 hpk]; exact HK.out.1, HK.out.2⟩
            case measure => simp [intOf]; omega
        · have hje : j = d.wait.length := by omega
          subst hje
          have hf := HK.out.1
          rw [HEND.out] at hf
          have hl : (d.look k).length = 512 := HB0.out.2.look_len k
          have ho := hf.own (Nat.le_refl _) (by rw [hl]; decide)
          rw [hl] at ho
          have HX := Lib.hid (show RowAt _ w.heap.size _ (d.look k) ∧ _ from ⟨⟨ho, by rw [hl]; omega, fun _ _ e => by cases e⟩, HK.out.2⟩)
          clear hf hl ho
          go_wp2_with fail
          go_ret
          exact ⟨_, rfl, HX.out.1, HX.out.2⟩
end Go.Proofs.YtonjapphhbhcpaaDoor
namespace Go.Proofs.YtonjapphhbhcpaaDoor
open Go.RowKit
set_option maxRecDepth 100000

/-- What a sector's reading tells, the error as a number. -/
def RReadAt (d : Dk) (at_ : Int) (w : World) (e : Ending) (w' : World) : Prop := ∃ v, e = .returned (.tuple #[v, .int .i64 (d.readE at_)]) ∧ (d.readE at_ ≠ 0 → v = .slice none 0 0) ∧ (d.readE at_ = 0 → RowAt w' w.heap.size v (d.look at_.toNat)) ∧ Below w.heap.size w w'
set_option maxHeartbeats 4000000 in
theorem rread_any (g : Nat) (at_ : Int) (w : World) (B N : Nat) (d : Dk) (ha : okInt at_) (hb : RefAt w B g d N) (hN : N ≤ 549755813888) :
    Calls Tryd.prog 67 #[.pointer (some ⟨g, 0, none⟩), .int .i64 at_] w (RReadAt d at_ w) := by
  have HB := Lib.hid hb
  obtain ⟨hok, s, hb⟩ := hb
  obtain ⟨q0, q1, q2, q3, q4, q5, q6⟩ := refC_get d s.sv s.wv
  have c0 := (hb.cells 0).trans q0
  have c6 := (hb.cells 6).trans q6
  have hm := hb.many
  unfold okInt at ha
  clear q0 q1 q2 q3 q4 q5 q6 hok hb
  cases hd : d.down
  · rw [hd] at c6
    by_cases h0 : at_ < 0
    · have HE : Hid (RReadAt d at_ w (.returned (.tuple #[.slice none 0 0, .int .i64 1])) w) := Lib.hid (by
        have e : d.readE at_ = 1 := by unfold Dk.readE; rw [hd, if_neg (by simp), if_neg (by omega)]
        exact ⟨_, by rw [e], fun _ => rfl, fun h => by rw [e] at h; exact absurd h (by decide), Below.refl _ _⟩)
      clear hd
      go_enter Tryd.func67, Tryd.ntmps67
      go_wp2_with fail
      go_ret2
      exact HE.out
    obtain ⟨k, rfl⟩ := Int.eq_ofNat_of_zero_le (show 0 ≤ at_ by omega)
    by_cases hk : k < d.many
    · have HL := Lib.hid (rlook_any g k w B N d (by omega) HB.out hN)
      have HE : Hid (d.readE (k : Int) = 0) := Lib.hid (by unfold Dk.readE; rw [hd, if_neg (by simp), if_pos (by omega)])
      clear hd
      go_enter Tryd.func67, Tryd.ntmps67
      go_wp2_with fail
      refine HL.out.mono ?_
      rintro e w2 ⟨v, rfl, hr, hbl⟩
      have HX : Hid (RReadAt d (k : Int) w (.returned (.tuple #[v, .int .i64 0])) w2) := Lib.hid ⟨v, by rw [HE.out], fun h => absurd HE.out h, fun _ => by rw [Int.toNat_natCast]; exact hr, hbl⟩
      clear hr hbl
      go_wp2_with fail
      go_ret2
      exact HX.out
    · have HE : Hid (RReadAt d (k : Int) w (.returned (.tuple #[.slice none 0 0, .int .i64 1])) w) := Lib.hid (by
        have e : d.readE (k : Int) = 1 := by unfold Dk.readE; rw [hd, if_neg (by simp), if_neg (by omega)]
        exact ⟨_, by rw [e], fun _ => rfl, fun h => by rw [e] at h; exact absurd h (by decide), Below.refl _ _⟩)
      clear hd
      go_enter Tryd.func67, Tryd.ntmps67
      go_wp2_with fail
      go_ret2
      exact HE.out
  · rw [hd] at c6
    have HE : Hid (RReadAt d at_ w (.returned (.tuple #[.slice none 0 0, .int .i64 5])) w) := Lib.hid (by
      have e : d.readE at_ = 5 := by unfold Dk.readE; rw [hd]; rfl
      exact ⟨_, by rw [e], fun _ => rfl, fun h => by rw [e] at h; exact absurd h (by decide), Below.refl _ _⟩)
    clear hd
    go_enter Tryd.func67, Tryd.ntmps67
    go_wp2_with fail
    go_ret2
    exact HE.out
end Go.Proofs.YtonjapphhbhcpaaDoor
