/- Package block's Disk.Sync: its contract. No statement is proved here. -/
import Derived.Test.YtlpnhfceblbllaaDoorDBlk7
namespace Go.Proofs.YtlpnhfceblbllaaDoor
open Go.RowKit
open Go.Maps (Keyed IsMap Tidy)
set_option maxRecDepth 100000

set_option maxHeartbeats 4000000 in
theorem act_sync (g : Nat) (w : World) (B N N' : Nat) (d : Dk) (f : Dk → Dk) (a : Addr) (hb : BoxAt w B g d N)
    (hf : ∀ w1 d1, BoxAt w1 B g d1 N → d1.many = d.many → Turns TB B w w1 → Calls Tryd.prog 49 #[.pointer (some a)] w1 fun e w' => e = .returned (.tuple #[]) ∧ BoxAt w' B g (f d1) N' ∧ Turns TB B w1 w')
    (hdn : ∀ d1 : Dk, f { d1 with down := true } = { f d1 with down := true }) (hN : N ≤ N') :
    Calls Tryd.prog 48 #[.pointer (some ⟨g, 0, none⟩), .func (.func 49) #[] #[.pointer (some a)]] w fun e w' => e = .returned (errV d.errA) ∧ BoxAt w' B g (if d.does then f d.acted else d.acted) N' ∧ Turns TB B w w' := by
  have HF := Lib.hid hf
  have HD := Lib.hid hdn
  clear hf hdn
  have HB := Lib.hid hb
  obtain ⟨hok, s, hb⟩ := hb
  obtain ⟨q0, q1, q2, q3, q4, q5, q6, q7⟩ := boxC_get d s.sb s.nb s.wv
  have c4 := (hb.cells 4).trans q4
  have c5 := (hb.cells 5).trans q5
  have c6 := (hb.cells 6).trans q6
  have c7 := (hb.cells 7).trans q7
  have f5 := hb.frozen 5
  have f7 := hb.frozen 7
  have HO := Lib.hid hb
  have ha := hb.acts
  clear q0 q1 q2 q3 q4 q5 q6 q7 hb hok
  by_cases h4 : d.armed = false
  · have hg : d.goes = false := by unfold Dk.goes; rw [h4]; rfl
    have h1 : d.does = true := by unfold Dk.does; rw [hg]; rfl
    have h2 : d.acted = d := by unfold Dk.acted; rw [hg, h4]; rfl
    have h3 : d.errA = 0 := by unfold Dk.errA; rw [hg]; rfl
    rw [h1, h2, h3, if_pos rfl, errV_zero]
    rw [h4] at c4
    have HC := Lib.hid (HF.out w d HB.out rfl (Turns.refl _ _ _))
    clear hg h1 h2 h3 h4
    go_enter Tryd.func48, Tryd.ntmps48
    go_wp2_with (go_at_call 49; refine HC.out.mono ?_; rintro e w1 ⟨rfl, hb1, ht1⟩)
    go_ret
    exact ⟨rfl, hb1, ht1⟩
  · replace h4 : d.armed = true := by simpa using h4
    rw [h4] at c4
    by_cases h5 : d.acts = 0
    · have hg : d.goes = true := by unfold Dk.goes; rw [h4, h5]; rfl
      have h2 : d.acted = { d with down := true } := by unfold Dk.acted; rw [hg]; rfl
      have h3 : d.errA = 5 := by unfold Dk.errA; rw [hg]; rfl
      have hz : ((d.acts : Int) == 0) = true := by rw [h5]; rfl
      rw [h2, h3, errV_mk (by omega)]
      by_cases h6 : d.done = false
      · have h1 : d.does = false := by unfold Dk.does; rw [hg]; exact h6
        rw [h6] at c6
        rw [h1, if_neg (by simp)]
        have HE := Lib.hid (down_end HB.out.1 HO.out)
        clear hg h1 h2 h3 h4 h5 h6
        go_enter Tryd.func48, Tryd.ntmps48
        go_wp2_with fail
        go_ret
        exact ⟨rfl, HE.out.1.more hN, HE.out.2⟩
      · replace h6 : d.done = true := by simpa using h6
        have h1 : d.does = true := by unfold Dk.does; rw [hg]; exact h6
        rw [h6] at c6
        rw [h1]
        have HC := Lib.hid (HF.out w d HB.out rfl (Turns.refl _ _ _))
        rw [if_pos rfl]
        clear hg h1 h2 h3 h4 h5 h6
        go_enter Tryd.func48, Tryd.ntmps48
        go_wp2_with (go_at_call 49; refine HC.out.mono ?_; rintro e w1 ⟨rfl, ⟨k1, s1, hb1⟩, ht1⟩; have HE := Lib.hid (down_end k1 hb1); have c71 := (hb1.cells 7).trans (boxC_get (f d) s1.sb s1.nb s1.wv).2.2.2.2.2.2.2; have f71 := hb1.frozen 7; have HT := Lib.hid ht1; clear k1 hb1 ht1)
        go_ret
        exact ⟨rfl, by rw [HD.out]; exact HE.out.1, HT.out.trans HE.out.2⟩
    · have hg : d.goes = false := by unfold Dk.goes; rw [h4]; simp [h5]
      have h1 : d.does = true := by unfold Dk.does; rw [hg]; rfl
      have h2 : d.acted = { d with acts := d.acts - 1 } := by unfold Dk.acted; rw [hg, h4]; rfl
      have h3 : d.errA = 0 := by unfold Dk.errA; rw [hg]; rfl
      have hz : ((d.acts : Int) == 0) = false := by simp; omega
      have hw : wrap64 ((d.acts : Int) - 1) = ((d.acts - 1 : Nat) : Int) := by simp only [wrap64]; omega
      have hw2 : (d.acts : Int) - 1 = ((d.acts - 1 : Nat) : Int) := by omega
      rw [h1, h2, h3, if_pos rfl, errV_zero]
      have HA := Lib.hid (less_end HB.out.1 HO.out)
      have HC := Lib.hid (HF.out _ _ HA.out.1 rfl HA.out.2)
      clear hg h1 h2 h3 h4
      go_enter Tryd.func48, Tryd.ntmps48
      go_wp2_with (go_at_call 49; (first | rw [hw] | rw [hw2] | skip); refine HC.out.mono ?_; rintro e w1 ⟨rfl, hb1, ht1⟩)
      go_ret
      exact ⟨rfl, hb1, HA.out.2.trans ht1⟩

theorem Dk.sync_down {d : Dk} (h : d.down = true) : d.sync = d ∧ d.syncE = 5 := by simp [Dk.sync, Dk.syncE, h]
theorem Dk.sync_up {d : Dk} (h : d.down = false) : d.sync = (if d.does then d.acted.settle else d.acted) ∧ d.syncE = d.errA := by simp [Dk.sync, Dk.syncE, h]
set_option maxHeartbeats 4000000 in
theorem dsync_any (h g : Nat) (w : World) (B N : Nat) (d : Dk) (hh : w.heap[h]? = some (.cells #[.pointer (some ⟨g, 0, none⟩)] 88)) (hb : BoxAt w B g d N) (hN : N ≤ 1099511627776) :
    Calls Tryd.prog 26 #[.pointer (some ⟨h, 0, none⟩)] w fun e w' => e = .returned (errV d.syncE) ∧ BoxAt w' B g d.sync N ∧ Turns TB B w w' := by
  have HB := Lib.hid hb
  obtain ⟨hok, s, hb⟩ := hb
  obtain ⟨q0, q1, q2, q3, q4, q5, q6, q7⟩ := boxC_get d s.sb s.nb s.wv
  have c7 := (hb.cells 7).trans q7
  have h0 : w.cell? ⟨h, 0, none⟩ = some (.pointer (some ⟨g, 0, none⟩)) := row_cells hh 0
  have hlt := lt_of_block hh
  have glt := hb.lt
  have hgB := hb.gB
  have HT := Lib.hid (fun X => Turns.of_below (T := TB) (B := B) (by omega) (below1 w X))
  have HC : Hid ((w.alloc (.cells #[.pointer (some ⟨h, 0, none⟩)] 46)).heap[w.heap.size]? = some (.cells #[.pointer (some ⟨h, 0, none⟩)] 46) ∧ (w.alloc (.cells #[.pointer (some ⟨h, 0, none⟩)] 46)).heap[h]? = some (.cells #[.pointer (some ⟨g, 0, none⟩)] 88)) := Lib.hid ⟨heap_alloc_new w _, ((below1 w _).block h hlt).trans hh⟩
  clear q0 q1 q2 q3 q4 q5 q6 q7 hb hok hh
  by_cases hd : d.down = true
  · obtain ⟨e1, e2⟩ := Dk.sync_down hd
    rw [e1, e2, errV_mk (by omega)]
    rw [hd] at c7
    clear hd e1 e2
    go_enter Tryd.func26, Tryd.ntmps26
    go_wp2_with fail
    go_ret
    exact ⟨rfl, HB.out.then_ (below1 _ _), HT.out _⟩
  replace hd : d.down = false := by simpa using hd
  obtain ⟨e1, e2⟩ := Dk.sync_up hd
  rw [e1, e2]
  generalize hD : (if d.does = true then d.acted.settle else d.acted) = D
  have HD := Lib.hid hD
  rw [hd] at c7
  clear hd e1 e2 hD
  go_enter Tryd.func26, Tryd.ntmps26
  go_wp2_with (go_at_call 48; refine (act_sync g _ B N N d Dk.settle _ (HB.out.then_ (below1 w _)) (fun w4 d1 h1 h2 h3 => sync1_any _ h g w4 B N d1 (h3.block _ _ HC.out.1 (TB_no (by decide) (by decide) _ _)) (h3.block _ _ HC.out.2 (TB_no (by decide) (by decide) _ _)) hN h1) (fun d1 => rfl) (Nat.le_refl _)).mono ?_; rintro e w5 ⟨rfl, hb5, ht5⟩; have H5 := Lib.hid (And.intro hb5 ht5); clear hb5 ht5)
  go_ret
  exact ⟨rfl, HD.out ▸ H5.out.1, (HT.out _).trans H5.out.2⟩
end Go.Proofs.YtlpnhfceblbllaaDoor
