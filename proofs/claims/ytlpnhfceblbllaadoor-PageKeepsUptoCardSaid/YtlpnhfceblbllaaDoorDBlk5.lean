/- Package block's Disk.Write: its contract. No statement is proved here. -/
import Derived.Test.YtlpnhfceblbllaaDoorDBlk4
namespace Go.Proofs.YtlpnhfceblbllaaDoor
open Go.RowKit
open Go.Maps (Keyed IsMap Tidy)
set_option maxRecDepth 100000

/-- The disk goes down. -/
theorem down_end {w : World} {B g N : Nat} {d : Dk} {s : Spot} (hok : d.ok) (h : BoxOf w B g d N s) : BoxAt (w.setCell ⟨g, 7, none⟩ (.bool true)) B g { d with down := true } N ∧ Turns TB B w (w.setCell ⟨g, 7, none⟩ (.bool true)) :=
  ⟨⟨⟨hok.now, hok.rowS, hok.rowW⟩, s, h.turn (d' := { d with down := true }) (fun x _ hne => set_off _ _ hne) (set_heap (i := 7) h.box (.bool true)) rfl rfl rfl rfl h.acts⟩, (Turns.refl TB B w).setCell (p := ⟨g, 7, none⟩) h.box (TB_box _ _) h.gB (.bool true)⟩
/-- An act less. -/
theorem less_end {w : World} {B g N : Nat} {d : Dk} {s : Spot} (hok : d.ok) (h : BoxOf w B g d N s) : BoxAt (w.setCell ⟨g, 5, none⟩ (.int .i64 ((d.acts - 1 : Nat) : Int))) B g { d with acts := d.acts - 1 } N ∧ Turns TB B w (w.setCell ⟨g, 5, none⟩ (.int .i64 ((d.acts - 1 : Nat) : Int))) :=
  ⟨⟨⟨hok.now, hok.rowS, hok.rowW⟩, s, h.turn (d' := { d with acts := d.acts - 1 }) (fun x _ hne => set_off _ _ hne) (set_heap (i := 5) h.box (.int .i64 ((d.acts - 1 : Nat) : Int))) rfl rfl rfl rfl (by have := h.acts; show d.acts - 1 ≤ _; omega)⟩, (Turns.refl TB B w).setCell (p := ⟨g, 5, none⟩) h.box (TB_box _ _) h.gB _⟩
set_option maxHeartbeats 4000000 in
theorem act_write (g : Nat) (w : World) (B N N' : Nat) (d : Dk) (f : Dk → Dk) (a b c : Addr) (hb : BoxAt w B g d N)
    (hf : ∀ w1 d1, BoxAt w1 B g d1 N → d1.many = d.many → Turns TB B w w1 → Calls Tryd.prog 62 #[.pointer (some a), .pointer (some b), .pointer (some c)] w1 fun e w' => e = .returned (.tuple #[]) ∧ BoxAt w' B g (f d1) N' ∧ Turns TB B w1 w')
    (hdn : ∀ d1 : Dk, f { d1 with down := true } = { f d1 with down := true }) (hN : N ≤ N') :
    Calls Tryd.prog 48 #[.pointer (some ⟨g, 0, none⟩), .func (.func 62) #[] #[.pointer (some a), .pointer (some b), .pointer (some c)]] w fun e w' => e = .returned (errV d.errA) ∧ BoxAt w' B g (if d.does then f d.acted else d.acted) N' ∧ Turns TB B w w' := by
  have HF := Lib.hid hf
  have HD := Lib.hid hdn
  clear hf hdn
  have HB := Lib.hid hb
  obtain ⟨hok, s, hb⟩ := hb
  obtain ⟨q0, q1, q2, q3, q4, q5, q6, q7⟩ := boxC_get d s.sb s.nb s.wv
  have c4 := (hb.cells 4).trans q4
  have c5 := (hb.cells 5).trans q5
  have c6 := (hb.cells 6).trans q6
  have c7 := (hb.cells 7).trans q7
  have f5 := hb.frozen 5
  have f7 := hb.frozen 7
  have HO := Lib.hid hb
  have ha := hb.acts
  clear q0 q1 q2 q3 q4 q5 q6 q7 hb hok
  by_cases h4 : d.armed = false
  · have hg : d.goes = false := by unfold Dk.goes; rw [h4]; rfl
    have h1 : d.does = true := by unfold Dk.does; rw [hg]; rfl
    have h2 : d.acted = d := by unfold Dk.acted; rw [hg, h4]; rfl
    have h3 : d.errA = 0 := by unfold Dk.errA; rw [hg]; rfl
    rw [h1, h2, h3, if_pos rfl, errV_zero]
    rw [h4] at c4
    have HC := Lib.hid (HF.out w d HB.out rfl (Turns.refl _ _ _))
    clear hg h1 h2 h3 h4
    go_enter Tryd.func48, Tryd.ntmps48
    go_wp2_with (go_at_call 62; refine HC.out.mono ?_; rintro e w1 ⟨rfl, hb1, ht1⟩)
    go_ret
    exact ⟨rfl, hb1, ht1⟩
  · replace h4 : d.armed = true := by simpa using h4
    rw [h4] at c4
    by_cases h5 : d.acts = 0
    · have hg : d.goes = true := by unfold Dk.goes; rw [h4, h5]; rfl
      have h2 : d.acted = { d with down := true } := by unfold Dk.acted; rw [hg]; rfl
      have h3 : d.errA = 5 := by unfold Dk.errA; rw [hg]; rfl
      have hz : ((d.acts : Int) == 0) = true := by rw [h5]; rfl
      rw [h2, h3, errV_mk (by omega)]
      by_cases h6 : d.done = false
      · have h1 : d.does = false := by unfold Dk.does; rw [hg]; exact h6
        rw [h6] at c6
        rw [h1, if_neg (by simp)]
        have HE := Lib.hid (down_end HB.out.1 HO.out)
        clear hg h1 h2 h3 h4 h5 h6
        go_enter Tryd.func48, Tryd.ntmps48
        go_wp2_with fail
        go_ret
        exact ⟨rfl, HE.out.1.more hN, HE.out.2⟩
      · replace h6 : d.done = true := by simpa using h6
        have h1 : d.does = true := by unfold Dk.does; rw [hg]; exact h6
        rw [h6] at c6
        rw [h1]
        have HC := Lib.hid (HF.out w d HB.out rfl (Turns.refl _ _ _))
        rw [if_pos rfl]
        clear hg h1 h2 h3 h4 h5 h6
        go_enter Tryd.func48, Tryd.ntmps48
        go_wp2_with (go_at_call 62; refine HC.out.mono ?_; rintro e w1 ⟨rfl, ⟨k1, s1, hb1⟩, ht1⟩; have HE := Lib.hid (down_end k1 hb1); have c71 := (hb1.cells 7).trans (boxC_get (f d) s1.sb s1.nb s1.wv).2.2.2.2.2.2.2; have f71 := hb1.frozen 7; have HT := Lib.hid ht1; clear k1 hb1 ht1)
        go_ret
        exact ⟨rfl, by rw [HD.out]; exact HE.out.1, HT.out.trans HE.out.2⟩
    · have hg : d.goes = false := by unfold Dk.goes; rw [h4]; simp [h5]
      have h1 : d.does = true := by unfold Dk.does; rw [hg]; rfl
      have h2 : d.acted = { d with acts := d.acts - 1 } := by unfold Dk.acted; rw [hg, h4]; rfl
      have h3 : d.errA = 0 := by unfold Dk.errA; rw [hg]; rfl
      have hz : ((d.acts : Int) == 0) = false := by simp; omega
      have hw : wrap64 ((d.acts : Int) - 1) = ((d.acts - 1 : Nat) : Int) := by simp only [wrap64]; omega
      have hw2 : (d.acts : Int) - 1 = ((d.acts - 1 : Nat) : Int) := by omega
      rw [h1, h2, h3, if_pos rfl, errV_zero]
      have HA := Lib.hid (less_end HB.out.1 HO.out)
      have HC := Lib.hid (HF.out _ _ HA.out.1 rfl HA.out.2)
      clear hg h1 h2 h3 h4
      go_enter Tryd.func48, Tryd.ntmps48
      go_wp2_with (go_at_call 62; (first | rw [hw] | rw [hw2] | skip); refine HC.out.mono ?_; rintro e w1 ⟨rfl, hb1, ht1⟩)
      go_ret
      exact ⟨rfl, hb1, HA.out.2.trans ht1⟩
end Go.Proofs.YtlpnhfceblbllaaDoor
