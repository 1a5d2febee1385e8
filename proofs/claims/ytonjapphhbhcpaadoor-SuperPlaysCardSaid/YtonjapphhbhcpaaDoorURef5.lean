/- The document's own superblock: Write. No statement is proved here. -/
import Derived.Test.YtonjapphhbhcpaaDoorURef4
import Derived.Test.YtonjapphhbhcpaaDoorJ7
namespace Go.Proofs.YtonjapphhbhcpaaDoor
open Go.RowKit
set_option maxRecDepth 100000

theorem Turns.box {T : Obj → Prop} {B : Nat} {w w' : World} {g : Nat} {cs : Array Value} {t : TypeId} (h : Turns T B w w') (hg : w.heap[g]? = some (.cells cs t)) (hn : ¬ T (.cells cs t)) : w'.heap[g]? = some (.cells cs t) := h.block g _ hg hn
theorem super_TR {cs : Array Value} {fr : Nat × Nat} : ¬ TR (.cells cs 23 fr) := by
  show ¬ ((23 : Nat) = 83 ∨ (23 : Nat) = 88)
  decide
theorem super_TB {cs : Array Value} {fr : Nat × Nat} : ¬ TB (.cells cs 23 fr) := by
  show ¬ ((23 : Nat) = 78 ∨ (23 : Nat) = 95)
  decide
theorem swr_no {d : Dk} {s : Sup} (h : ¬ (s.ok = true ∧ s.pag = d.pages)) : d.swr s = (1, d) := by unfold Dk.swr; rw [if_neg h]
set_option maxHeartbeats 8000000 in
theorem rswr_any (g : Nat) (s : Sup) (hi : s.In) (w : World) (B N : Nat) (d : Dk) (hb : RefAt w B g d N) (hN : N + 8 ≤ 549755813888) :
    Calls Tryd.prog 43 #[.pointer (some ⟨g, 0, none⟩), s.arg] w fun e w' => e = .returned (.int .i64 (d.swr s).1) ∧ RefAt w' B g (d.swr s).2 (N + 8) ∧ Turns TR B w w' := by
  have HM := Lib.hid (fun w => rmay_any s hi w)
  have HA := Lib.hid hb
  have HI := Lib.hid hi
  have hBw : B ≤ w.heap.size := Nat.le_of_lt (Nat.lt_of_le_of_lt hb.lt.1 hb.lt.2)
  have HB := Lib.hid (below1 w (.cells #[.int .i64 s.ver, .int .i64 s.root, .int .i64 s.ep, .int .i64 s.pag] 23))
  have HX := Lib.hid (heap_alloc_new w (.cells #[.int .i64 s.ver, .int .i64 s.root, .int .i64 s.ep, .int .i64 s.pag] 23))
  clear hb hi
  show Calls _ _ #[_, .agg #[.int .i64 s.ver, .int .i64 s.root, .int .i64 s.ep, .int .i64 s.pag]] _ _
  cases h : s.ok with
  | false =>
    rw [h] at HM
    rw [swr_no (fun k => by rw [h] at k; exact absurd k.1 (by decide))]
    clear h
    go_enter Tryd.func43, Tryd.ntmps43
    go_wp2_with fail
    refine (HM.out _).mono ?_
    rintro e w1 ⟨rfl, b1⟩
    have B1 := Lib.hid (below_then HB.out b1)
    clear b1
    go_wp2_with fail
    go_quiet (fail)
    go_wp2_with fail
    go_ret
    have hb2 := below_drewN B1.out nq
    exact ⟨rfl, (HA.out.then_ hb2).more (by omega), Turns.of_below hBw hb2⟩
  | true =>
    rw [h] at HM
    have HO := Lib.hid h
    have HBd := Lib.hid (fun W => rbody_any s h W)
    have hv := (Sup.ok_yes h).1
    obtain ⟨p, hp2, hp⟩ := Sup.page h
    have hrem : s.ver.tmod 2 = (p : Int) := by rw [Int.tmod_eq_emod_of_nonneg (by omega)]; exact hp
    have HP := Lib.hid hp
    go_enter Tryd.func43, Tryd.ntmps43
    go_wp2_with fail
    refine (HM.out _).mono ?_
    rintro e w1 ⟨rfl, b1⟩
    have B1 := Lib.hid (below_then HB.out b1)
    have HA1 := Lib.hid (HA.out.then_ B1.out)
    have X1 := Lib.hid (row_then HX.out b1)
    obtain ⟨c0, c1, c2, c3⟩ := box4_cells X1.out
    have HPG := Lib.hid (fun W (hb : Below w1.heap.size w1 W) => (rpages_any g W B N d (HA1.out.then_ hb)).mono fun e w' h => (show e = .returned (.int .i64 d.pages) ∧ w' = W from ⟨h.1, h.2.symm⟩))
    clear b1 h hp
    by_cases hpg : s.pag = d.pages
    · have hpb : (s.pag != d.pages) = false := by simp [hpg]
      have HSW : Hid (d.swr s = if (d.pwr (p : Int) 1 s.body).1 = 0 then ((d.pwr (p : Int) 1 s.body).2.syncE, (d.pwr (p : Int) 1 s.body).2.sync) else d.pwr (p : Int) 1 s.body) := Lib.hid (by unfold Dk.swr; rw [if_pos ⟨HO.out, hpg⟩, HP.out])
      go_wp2_with fail
      go_quiet ((go_at_call 64; refine Calls.quiet_of_same (HPG.out _ (below_drewN (Below.refl _ _) _))))
      have B2 := Lib.hid (below_drewN B1.out nq)
      have B12 := Lib.hid (below_drewN (Below.refl w1.heap.size w1) nq)
      have hd2 := row_then X1.out B12.out
      obtain ⟨d0, d1, d2, d3⟩ := box4_cells hd2
      have HW := Lib.hid (fun (la : Option Addr) (c : Nat) (W : World) (hb : Below w.heap.size w W) (hin : InB W la s.body) (hnil : la = none → c = 0 ∧ s.body = []) => rpw_any g (p : Int) 1 la 36 c s.body W B N d (by unfold okInt; omega) (by unfold okInt; omega) (HA.out.then_ hb) hin s.body_byte s.body_len hnil hN)
      have X2 := Lib.hid hd2
      generalize w1.drewN nq = w2 at *
      clear c0 c1 c2 c3 hpb hpg hd2 HPG HM
      go_wp2_with fail
      go_region_held3 (fun w' => w'.cell? ⟨w.heap.size, 0, none⟩ = some (.int .i64 s.ver) ∧ w'.cell? ⟨w.heap.size, 1, none⟩ = some (.int .i64 s.root) ∧ w'.cell? ⟨w.heap.size, 2, none⟩ = some (.int .i64 s.ep) ∧ w'.cell? ⟨w.heap.size, 3, none⟩ = some (.int .i64 s.pag))
        (first
          | exact ⟨d0, d1, d2, d3⟩
          | exact k2
          | exact k3
          | go_keep)
        (first
          | (go_at_call 37; refine (HBd.out _).mono ?_; rintro e w3 ⟨v2, rfl, o2, b2⟩; obtain ⟨a2, q2, e2, i2, n2, -, -⟩ := o2.shape; rw [s.body_len] at e2; subst e2; have H2 := Lib.hid (And.intro i2 (And.intro n2 (below_then (Below.refl w2.heap.size w2).drew b2))); have k2 := box4_cells (row_then X2.out H2.out.2.2); clear o2 b2 i2 n2)
          | (go_at_call 65; refine (HW.out _ _ _ (below_then B2.out H2.out.2.2) H2.out.1 H2.out.2.1).mono ?_; rintro e w4 ⟨rfl, r3, t3⟩; have H3 := Lib.hid (And.intro r3 ((Turns.of_below (T := TR) (B := B) hBw (below_then B2.out H2.out.2.2)).trans t3)); have k3 := box4_cells (t3.box (row_then X2.out H2.out.2.2) super_TR); clear r3 t3))
      clear k2 k3 d0 d1 d2 d3 HW HBd
      by_cases he : (d.pwr (p : Int) 1 s.body).1 = 0
      · have HSW2 := Lib.hid (HSW.out.trans (if_pos he))
        rw [he]
        have HSY := Lib.hid (rsync_any g w4 B (N + 8) _ H3.out.1 hN)
        generalize (d.pwr (p : Int) 1 s.body).2 = dd at *
        generalize hse : dd.syncE = se at *
        generalize hsd : dd.sync = sd at *
        clear he
        go_wp2_with fail
        refine HSY.out.mono ?_
        rintro e w5 ⟨rfl, r5, t5⟩
        have H5 := Lib.hid (And.intro r5 (H3.out.2.trans t5))
        clear r5 t5
        go_wp2_with fail
        go_ret
        rw [HSW2.out]
        exact ⟨by simp [hse], by simpa [hsd] using H5.out.1, H5.out.2⟩
      · have HSW2 := Lib.hid (HSW.out.trans (if_neg he))
        have heb : ((d.pwr (p : Int) 1 s.body).1 != 0) = true := by simp [he]
        generalize (d.pwr (p : Int) 1 s.body) = pp at *
        obtain ⟨pe, pd⟩ := pp
        dsimp only at *
        clear he
        go_wp2_with fail
        go_ret
        rw [HSW2.out]
        exact ⟨rfl, H3.out.1, H3.out.2⟩
    · have hpb : (s.pag != d.pages) = true := by simp [hpg]
      have HSN := Lib.hid (swr_no (d := d) (s := s) (fun k => hpg k.2))
      clear hpg
      go_wp2_with fail
      go_quiet ((go_at_call 64; refine Calls.quiet_of_same (HPG.out _ (below_drewN (Below.refl _ _) _))))
      go_wp2_with fail
      go_ret
      have hb2 := below_drewN B1.out nq
      rw [HSN.out]
      exact ⟨rfl, (HA.out.then_ hb2).more (by omega), Turns.of_below hBw hb2⟩
end Go.Proofs.YtonjapphhbhcpaaDoor
