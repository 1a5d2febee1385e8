/- The contract of Compare: no statement is proved here. -/
import Derived.Test.YtdlgngnibbaamaaDoorCmp
namespace Go.Proofs.YtdlgngnibbaamaaDoor
open Go.RowKit
set_option maxRecDepth 100000

set_option maxHeartbeats 4000000 in
theorem compare_any (a : T) : ∀ (b : T) (w : World), a.ok → b.ok → a.In w → b.In w →
    Calls Tryd.prog 38 #[a.arg, b.arg] w fun e w' => e = .returned (.int .i64 (cmpV a.val b.val)) ∧ Below w.heap.size w w' := by
  induction a using T.ind with
  | h kx nx sx lax lcx lx dax dcx dx ihl ihd =>
  intro b w oka okb ha hb
  obtain ⟨ky, ny, sy, lay, lcy, ly, day, dcy, dy⟩ := b
  show Calls _ _ #[.agg #[.int .i64 kx, .int .i64 nx, .string sx, .slice lax lx.length lcx, .slice dax dx.length dcx], .agg #[.int .i64 ky, .int .i64 ny, .string sy, .slice lay ly.length lcy, .slice day dy.length dcy]] _ _
  obtain ⟨-, -, -, -, -, ol1, ol2, od1, od2, ol3, od3⟩ := oka.parts
  obtain ⟨-, -, -, -, -, pl1, pl2, pd1, pd2, pl3, pd3⟩ := okb.parts
  have HL : ∀ w1, Below w.heap.size w w1 → Calls Tryd.prog 57 #[.slice lax lx.length lcx, .slice lay ly.length lcy, .func (.func 38) #[] #[]] w1 fun e w' => e = .returned (.int .i64 (cmpL (lx.map T.val) (ly.map T.val))) ∧ Below w1.heap.size w1 w' := fun w1 hw =>
    rowsL_any _ _ _ _ _ _ _ (ha.parts.1.then_ hw) (hb.parts.1.then_ hw) (by omega) (by omega) fun x hx y hy w hxi hyi => ihl x hx y w (ol3 x hx) (pl3 y hy) hxi hyi
  have HD : ∀ w1, Below w.heap.size w w1 → Calls Tryd.prog 58 #[.slice dax dx.length dcx, .slice day dy.length dcy, .func (.func 59) #[] #[]] w1 fun e w' => e = .returned (.int .i64 (cmpD (dx.map fun f => (f.1, f.2.val)) (dy.map fun f => (f.1, f.2.val)))) ∧ Below w1.heap.size w1 w' := fun w1 hw =>
    rowsD_any _ _ _ _ _ _ _ (ha.parts.2.then_ hw) (hb.parts.2.then_ hw) (by omega) (by omega) fun x hx y hy w hxi hyi => fields_any x y w (fun w hxi hyi => ihd x hx y.2 w (od3 x hx).2 (pd3 y hy).2 hxi hyi) hxi hyi
  replace HL := Lib.hid HL
  replace HD := Lib.hid HD
  have HV := Lib.hid (show cmpV (T.mk kx nx sx lax lcx lx dax dcx dx).val (T.mk ky ny sy lay lcy ly day dcy dy).val = _ by rw [T.val_mk, T.val_mk, cmpV])
  clear ihl ihd ha hb ol3 od3 pl3 pd3
  by_cases hk : kx = ky
  · subst hk
    by_cases k3 : kx = 3
    · subst k3
      go_enter Tryd.func38, Tryd.ntmps38
      go_wp2_with (go_at_call 55; refine (cmpInt_any _ _ _).mono ?_; rintro e w' ⟨rfl, rfl⟩)
      go_ret
      exact ⟨ret_int (by rw [HV.out]; simp), below2 _ _ _⟩
    by_cases k9 : kx = 9
    · subst k9
      go_enter Tryd.func38, Tryd.ntmps38
      go_wp2_with (go_at_call 55; refine (cmpInt_any _ _ _).mono ?_; rintro e w' ⟨rfl, rfl⟩)
      go_ret
      exact ⟨ret_int (by rw [HV.out]; simp), below2 _ _ _⟩
    by_cases k10 : kx = 10
    · subst k10
      go_enter Tryd.func38, Tryd.ntmps38
      go_wp2_with (go_at_call 55; refine (cmpInt_any _ _ _).mono ?_; rintro e w' ⟨rfl, rfl⟩)
      go_ret
      exact ⟨ret_int (by rw [HV.out]; simp), below2 _ _ _⟩
    by_cases k4 : kx = 4
    · subst k4
      go_enter Tryd.func38, Tryd.ntmps38
      go_wp2_with (go_at_call 56; refine (cmpStr_any _ _ _).mono ?_; rintro e w' ⟨rfl, rfl⟩)
      go_ret
      exact ⟨ret_int (by rw [HV.out]; simp), below2 _ _ _⟩
    by_cases k7 : kx = 7
    · subst k7
      go_enter Tryd.func38, Tryd.ntmps38
      go_wp2_with (go_at_call 56; refine (cmpStr_any _ _ _).mono ?_; rintro e w' ⟨rfl, rfl⟩)
      go_ret
      exact ⟨ret_int (by rw [HV.out]; simp), below2 _ _ _⟩
    by_cases k8 : kx = 8
    · subst k8
      go_enter Tryd.func38, Tryd.ntmps38
      go_wp2_with (go_at_call 56; refine (cmpStr_any _ _ _).mono ?_; rintro e w' ⟨rfl, rfl⟩)
      go_ret
      exact ⟨ret_int (by rw [HV.out]; simp), below2 _ _ _⟩
    by_cases k6 : kx = 6
    · subst k6
      go_enter Tryd.func38, Tryd.ntmps38
      go_wp2_with (go_at_call 57; refine (HL.out _ (below2 _ _ _)).mono ?_; rintro e w' ⟨rfl, hb1⟩)
      go_ret
      exact ⟨ret_int (by rw [HV.out]; simp), below_then (below2 _ _ _) hb1⟩
    by_cases k5 : kx = 5
    · subst k5
      go_enter Tryd.func38, Tryd.ntmps38
      go_wp2_with (go_at_call 58; refine (HD.out _ (below2 _ _ _)).mono ?_; rintro e w' ⟨rfl, hb1⟩)
      go_ret
      exact ⟨ret_int (by rw [HV.out]; simp), below_then (below2 _ _ _) hb1⟩
    have hz : cmpV (T.mk kx nx sx lax lcx lx dax dcx dx).val (T.mk kx ny sy lay lcy ly day dcy dy).val = 0 := by rw [HV.out]; simp [k3, k4, k5, k6, k7, k8, k9, k10]
    replace hz := Lib.hid hz
    have b3 : ((kx : Int) == 3) = false := by simp [k3]
    have b4 : ((kx : Int) == 4) = false := by simp [k4]
    have b5 : ((kx : Int) == 5) = false := by simp [k5]
    have b6 : ((kx : Int) == 6) = false := by simp [k6]
    have b7 : ((kx : Int) == 7) = false := by simp [k7]
    have b8 : ((kx : Int) == 8) = false := by simp [k8]
    have b9 : ((kx : Int) == 9) = false := by simp [k9]
    have b10 : ((kx : Int) == 10) = false := by simp [k10]
    clear k3 k4 k5 k6 k7 k8 k9 k10
    go_enter Tryd.func38, Tryd.ntmps38
    go_wp2_with fail
    go_ret
    exact ⟨ret_int (by rw [hz.out]), below2 _ _ _⟩
  · have hn : ((kx : Int) != ky) = true := by simp [hk]
    go_enter Tryd.func38, Tryd.ntmps38
    go_wp2_with (go_at_call 55; refine (cmpInt_any _ _ _).mono ?_; rintro e w' ⟨rfl, rfl⟩)
    go_ret
    exact ⟨ret_int (by rw [HV.out]; simp [hk]), below2 _ _ _⟩
end Go.Proofs.YtdlgngnibbaamaaDoor
