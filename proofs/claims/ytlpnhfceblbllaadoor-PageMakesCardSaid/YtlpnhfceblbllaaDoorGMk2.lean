/- The program's Make of a page. No statement is proved here. -/
import Derived.Test.YtlpnhfceblbllaaDoorGMk1
import Derived.Test.YtlpnhfceblbllaaDoorGRow2
import Derived.Test.YtlpnhfceblbllaaDoorDBlk2
import Derived.Test.YtlpnhfceblbllaaDoorStepC
namespace Go.Proofs.YtlpnhfceblbllaaDoor
open Go.RowKit
set_option maxRecDepth 100000

theorem zeroV_z (n : Nat) : zeroV n = btV (zB n) := zeroV_bt n
theorem parts_kx {s nm kd ln bd x : List Int} (h1 : s.length = 4) (h2 : nm.length = 4) (h3 : kd.length = x.length) : spl (partsL s nm kd ln bd) 8 x = partsL s nm x ln bd := by
  have e : ∀ y : List Int, partsL s nm y ln bd = (s ++ nm) ++ (y ++ (ln ++ bd)) := fun y => by unfold partsL; simp only [List.append_assoc]
  rw [e, e]
  exact spl_mid h3 (by simp only [List.length_append]; omega)
set_option maxHeartbeats 4000000 in
theorem lmake_any (number kind : Int) (la : Option Addr) (n c : Nat) (l : List Int) (w : World) (ht : Tab16 w) (h1 : okInt number) (h2 : okInt kind) (hin : InB w la l) (hB : isB l) (hn : l.length = n) (hnil : la = none → c = 0 ∧ l = []) :
    Calls Tryd.prog 10 #[.int .i64 number, .int .i64 kind, .slice la n c] w (MakeTo number kind l w) := by
  unfold okInt at h1 h2
  cases ho : okG number kind n
  · have HE : Hid (MakeTo number kind l w (.returned (.tuple #[.slice none 0 0, .int .i64 1])) w) := Lib.hid ⟨_, by unfold makeE; rw [hn, ho]; rfl, by unfold makeL; rw [hn, ho]; exact OwnB.nil _ _, Below.refl _ _⟩
    have hx := okG_no ho
    clear ho hin hB hn hnil
    go_enter Tryd.func10, Tryd.ntmps10
    go_wp2_with fail
    all_goals go_ret2
    all_goals exact HE.out
  · obtain ⟨a1, a2, a3, a4, a5⟩ := okG_yes ho
    have HE : Hid (makeE number kind l.length = 0 ∧ makeL number kind l = pageL number kind l) := Lib.hid ⟨by unfold makeE; rw [hn, ho]; rfl, by unfold makeL; rw [hn, ho]; rfl⟩
    have HA := Lib.hid (And.intro hin (And.intro hB (And.intro hn (And.intro hnil ht))))
    have hmk : ∀ w : World, (Instr.makeSlice 22 (.int .i64 4096) (.int .i64 4096)).run Tryd.prog w = .ok (.slice (some ⟨w.heap.size, 0, none⟩) 4096 4096) (w.alloc (.cells (zeroV 4096).toArray 5)) := fun w => by have := make_zero 4096 (by omega) w; simpa using this
    clear ho hin hB hn hnil ht
    go_enter Tryd.func10, Tryd.ntmps10
    go_wp2_with fail
    have hB1 := below1 w (.cells (zeroV 4096).toArray 5)
    have F1 : Hid (FullAt (w.alloc (.cells (zeroV 4096).toArray 5)) w.heap.size (partsL (zB 4) (zB 4) (zB 1) (zB 2) (zB 4085))) := Lib.hid (by rw [← parts_zero]; unfold FullAt; rw [← zeroV_z]; exact heap_alloc_new w _)
    have L4 : ∀ x : Int, (leB 4 x).length = 4 := leB_len 4
    have L2 : ∀ x : Int, (leB 2 x).length = 2 := leB_len 2
    have L1 : ∀ x : Int, (leB 1 x).length = 1 := leB_len 1
    refine (lput_any w.heap.size 4 number 4 _ _ _ w.heap.size F1.out h1 (by omega) (by omega) a1 (by omega) (by rw [parts_len (zB_len _) (zB_len _) (zB_len _) (zB_len _) (zB_len _)]; omega) (Nat.le_refl _)).mono ?_
    rintro e w2 ⟨rfl, f2, b2⟩
    rw [parts_nm (zB_len _) (by rw [zB_len, L4])] at f2
    have F2 := Lib.hid f2
    have B2 := Lib.hid (hB1.trans b2)
    clear f2 b2 F1
    go_wp2_with fail
    refine (lput_any w.heap.size 8 kind 1 _ _ _ w.heap.size F2.out h2 (by omega) (by omega) (by omega) (by omega) (by rw [parts_len (zB_len _) (L4 _) (zB_len _) (zB_len _) (zB_len _)]; omega) (Nat.le_refl _)).mono ?_
    rintro e w3 ⟨rfl, f3, b3⟩
    rw [parts_kx (zB_len _) (L4 _) (by rw [zB_len, L1])] at f3
    have F3 := Lib.hid f3
    have B3 := Lib.hid (B2.out.trans b3)
    clear f3 b3 F2
    go_wp2_with fail
    refine (lput_any w.heap.size 9 n 2 _ _ _ w.heap.size F3.out (by unfold okInt; omega) (by omega) (by omega) (by omega) (by omega) (by rw [parts_len (zB_len _) (L4 _) (L1 _) (zB_len _) (zB_len _)]; omega) (Nat.le_refl _)).mono ?_
    rintro e w4 ⟨rfl, f4, b4⟩
    rw [parts_ln (zB_len _) (L4 _) (L1 _) (by rw [zB_len, L2]), show zB 4085 = zB n ++ zB (4085 - n) by rw [← zB_add, show n + (4085 - n) = 4085 by omega]] at f4
    have F4 := Lib.hid f4
    have B4 := Lib.hid (B3.out.trans b4)
    clear f4 b4 F3
    have l5 : (partsL (zB 4) (leB 4 number) (leB 1 kind) (leB 2 (n : Int)) (zB n ++ zB (4085 - n))).length = 4096 := parts_len (zB_len _) (L4 _) (L1 _) (L2 _) (by rw [← zB_add, zB_len]; omega)
    have P5 := Lib.hid (parts_bd (s := zB 4) (nm := leB 4 number) (kd := leB 1 kind) (ln := leB 2 (n : Int)) (r := zB (4085 - n)) (x := l) (zB_len _) (L4 _) (L1 _) (L2 _) (show (zB n).length = l.length by rw [zB_len, HA.out.2.2.1]))
    have HL5 := Lib.hid l5
    clear l5
    go_wp2_with (show wpList _ _ _ (⟨some 45, _, _, _, _, _⟩ :: _) _ _; refine cpF (o := ⟨some 45, _, _, _, _, _⟩) rfl (.tmp 43) (.tmp 44) rfl w.heap.size 11 4085 4085 _ F4.out rfl la n c l rfl HA.out.2.2.1 a5 (HA.out.1.then_ B4.out) (by rw [HL5.out]; omega) w.heap.size w B4.out (Nat.le_refl _) ?_; intro w5 f5 B5; rw [P5.out] at f5; replace B5 := Lib.hid B5)
    have D5 := Lib.hid (Below.refl w.heap.size w5).drew
    have S5 := Lib.hid (more0_any (some ⟨w.heap.size, 4, none⟩) 4092 4092 (restL number kind l) w5.drew (fun i hi => ((B5.out.trans D5.out).cell (p := ⟨1, i, none⟩) (cell_lt (HA.out.2.2.2.2 i hi))).trans (HA.out.2.2.2.2 i hi)) (by
      have h := InB.from (f5.out.then_ (Below.refl _ w5).drew).inB 4
      rw [parts_drop (zB_len _)] at h
      have e : restL number kind l = leB 4 number ++ (leB 1 kind ++ (leB 2 (n : Int) ++ (l ++ zB (4085 - n)))) := by unfold restL; rw [HA.out.2.2.1]; rfl
      rw [e]
      have h4 : (⟨w.heap.size, 0 + 4, none⟩ : Addr) = ⟨w.heap.size, 4, none⟩ := by simp
      rw [h4] at h
      exact h) (restL_byte HA.out.2.1) (restL_len (by rw [HA.out.2.2.1]; exact a5)) (by omega))
    have HMS := Lib.hid (moreP_rng0 (restL_byte (number := number) (kind := kind) HA.out.2.1))
    generalize hsm : moreP 0 (restL number kind l) = sm at S5 HMS
    have HSM := Lib.hid hsm
    clear hsm
    have hms := HMS.out
    have P6 := Lib.hid (lput_any w.heap.size 0 sm 4 4096 _ w5.drew w.heap.size (f5.out.then_ (Below.refl _ w5).drew) (by unfold okInt; omega) (by omega) (by omega) hms.1 (by omega) (by rw [parts_len (zB_len _) (L4 _) (L1 _) (L2 _) (by rw [List.length_append, zB_len, HA.out.2.2.1]; omega)]; omega) (Nat.le_refl _))
    rw [parts_s (by rw [zB_len, L4])] at P6
    clear hms
    go_wp2_with fail
    go_region_law (first
      | (refine step_call (o := { dst := some 50, op := _, type := _, pos := _, after := _, guard := none }) rfl 29 #[.slice (some ⟨w.heap.size, 4, none⟩) 4092 4092] (by go_simp) (S5.out.mono ?_); rintro e w6 ⟨rfl, rfl⟩; refine ⟨_, rfl, ?_⟩)
      | (refine step_call (o := { dst := some 51, op := _, type := _, pos := _, after := _, guard := none }) rfl 28 #[.slice (some ⟨w.heap.size, 0, none⟩) 4 4096, .int .i64 sm] (by go_simp) (P6.out.mono ?_); rintro e w7 ⟨rfl, f7, b7⟩; have F7 : Hid (FullAt w7 w.heap.size (pageL number kind l)) := Lib.hid (by rw [← parts_page, HSM.out, HA.out.2.2.1]; exact f7)
         have B7 := Lib.hid ((B5.out.trans D5.out).trans b7); clear f7 b7; refine ⟨_, rfl, ?_⟩))
    have HX : Hid (MakeTo number kind l w (.returned (.tuple #[.slice (some ⟨w.heap.size, 0, none⟩) 4096 4096, .int .i64 0])) w7) := Lib.hid ⟨_, by rw [HE.out.1], by
      rw [HE.out.2]
      have h := F7.out.own (Nat.le_refl _) (by rw [pageL_len (by rw [HA.out.2.2.1]; exact a5)]; decide)
      rw [pageL_len (by rw [HA.out.2.2.1]; exact a5)] at h
      exact h, B7.out⟩
    go_wp2_with fail
    go_ret2
    exact HX.out
end Go.Proofs.YtlpnhfceblbllaaDoor
