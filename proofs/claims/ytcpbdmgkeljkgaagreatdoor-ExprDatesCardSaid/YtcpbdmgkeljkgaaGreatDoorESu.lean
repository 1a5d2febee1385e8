/- What subtract, divide and modulo make of two numbers. No statement is proved here. -/
import Derived.Test.YtcpbdmgkeljkgaaGreatDoorEAd
import Derived.RegionTactic
namespace Go.Proofs.YtcpbdmgkeljkgaaGreatDoor
open Go.RowKit
set_option maxRecDepth 100000

set_option maxHeartbeats 4000000 in
theorem mod2_any {a b : Int} (ha : in64 a) (hb : in64 b) (w : World) (g : Nat) (h : w.heap[g]? = some (.cells (two a b) 28 (0, 0))) : Calls Tryz.prog 77 #[.slice (some ⟨g, 0, none⟩) 2 2] w fun e w' =>
    Below w.heap.size w w' ∧ e = .returned (.tuple (if b = 0 then #[scal 0 0, .int .i64 53] else #[scal 3 (a.tmod b), .int .i64 0])) := by
  have hg := lt_of_block h
  have cg := row_cells (row_then h (below1 w (box 0 0)))
  have XR := heap_alloc_new w (box 0 0)
  have cR := row_cells XR
  have fR := rowf XR
  have HR := Lib.hid XR
  unfold two at cg
  unfold box at cg cR fR
  clear XR h
  by_cases hb0 : b = 0
  · have hbb : (b == 0) = true := by simpa using hb0
    rw [if_pos hb0]
    go_enter Tryz.func77, Tryz.ntmps77
    go_wp2_with fail
    go_region
    go_wp2_with fail
    simp [bodyPost, results, Tryz.results77, go_sem, cR]
    exact ⟨(below1 _ _).drew, by simp [scal]⟩
  · have hbb : (b == 0) = false := by simpa using hb0
    rw [if_neg hb0]
    go_enter Tryz.func77, Tryz.ntmps77
    go_wp2_with fail
    go_region
    go_wp2_with fail
    refine (number_any _ _).mono ?_
    rintro e w1 ⟨rfl, b1⟩
    dsimp only [scal]
    have X1 := row_then (show (w.alloc (box 0 0)).drew.heap[w.heap.size]? = some (box 0 0) from HR.out) b1
    have c1 := row_cells X1
    have f1 := rowf X1
    have HX := Lib.hid X1
    have HB := Lib.hid (below_then (below1 w (box 0 0)).drew b1)
    unfold box at c1 f1
    clear X1 cg cR fR b1
    go_wp2_with fail
    generalize hV : World.setCell _ _ _ = V'
    obtain ⟨t1, t2⟩ := put5V HX.out hV
    have q := row_cells t2
    have HF := Lib.hid ((Only.of_below (S := []) HB.out).then_ t1 (fun x hx => .inr (by simp at hx; omega))).below
    clear hV t1 t2 c1 f1
    simp [bodyPost, results, Tryz.results77, go_sem, q]
    exact ⟨HF.out, by simp [scal]⟩
set_option maxHeartbeats 4000000 in
theorem div2_any {a b : Int} (ha : in64 a) (hb : in64 b) (w : World) (g : Nat) (h : w.heap[g]? = some (.cells (two a b) 28 (0, 0))) : Calls Tryz.prog 76 #[.slice (some ⟨g, 0, none⟩) 2 2] w fun e w' =>
    Below w.heap.size w w' ∧ e = .returned (.tuple (if b = 0 then #[scal 0 0, .int .i64 53] else if a = -9223372036854775808 ∧ b = -1 then #[scal 0 0, .int .i64 52] else #[scal 3 (a.tdiv b), .int .i64 0])) := by
  have hg := lt_of_block h
  have cg := row_cells (row_then h (below1 w (box 0 0)))
  have XR := heap_alloc_new w (box 0 0)
  have cR := row_cells XR
  have fR := rowf XR
  have HR := Lib.hid XR
  unfold two at cg
  unfold box at cg cR fR
  clear XR h
  by_cases hb0 : b = 0
  · have hbb : (b == 0) = true := by simpa using hb0
    rw [if_pos hb0]
    go_enter Tryz.func76, Tryz.ntmps76
    go_wp2_with fail
    go_region
    go_wp2_with fail
    simp [bodyPost, results, Tryz.results76, go_sem, cR]
    exact ⟨(below1 _ _).drew, by simp [scal]⟩
  have hbb : (b == 0) = false := by simpa using hb0
  rw [if_neg hb0]
  by_cases hm : a = -9223372036854775808 ∧ b = -1
  · obtain ⟨rfl, rfl⟩ := hm
    rw [if_pos ⟨rfl, rfl⟩]
    go_enter Tryz.func76, Tryz.ntmps76
    go_wp2_with fail
    go_region
    go_wp2_with fail
    simp [bodyPost, results, Tryz.results76, go_sem, cR]
    exact ⟨(below1 _ _).drew, by simp [scal]⟩
  · rw [if_neg hm]
    have hd := div_within ha hb0 hm
    have hw : wrap64 (a.tdiv b) = a.tdiv b := wrap64_in hd
    have hw2 : IntKind.i64.wrap (a.tdiv b) = a.tdiv b := by rw [IntKind.wrap_i64]; unfold wrap64 at hw; exact hw
    by_cases ha0 : a = -9223372036854775808
    · have haa : (a == -9223372036854775808) = true := by simpa using ha0
      have hb1 : (b == -1) = false := by simpa using fun h => hm ⟨ha0, h⟩
      go_enter Tryz.func76, Tryz.ntmps76
      go_wp2_with fail
      go_region
      go_wp2_with fail
      refine (number_any _ _).mono ?_
      rintro e w1 ⟨rfl, b1⟩
      dsimp only [scal]
      have X1 := row_then (show (w.alloc (box 0 0)).drew.heap[w.heap.size]? = some (box 0 0) from HR.out) b1
      have c1 := row_cells X1
      have f1 := rowf X1
      have HX := Lib.hid X1
      have HB := Lib.hid (below_then (below1 w (box 0 0)).drew b1)
      unfold box at c1 f1
      clear X1 cg cR fR b1
      go_wp2_with fail
      generalize hV : World.setCell _ _ _ = V'
      obtain ⟨t1, t2⟩ := put5V HX.out hV
      have q := row_cells t2
      have HF := Lib.hid ((Only.of_below (S := []) HB.out).then_ t1 (fun x hx => .inr (by simp at hx; omega))).below
      clear hV t1 t2 c1 f1
      simp [bodyPost, results, Tryz.results76, go_sem, q]
      exact ⟨HF.out, by
        simp [scal]
        rw [ha0] at hw ⊢
        simpa using hw⟩

    · have haa : (a == -9223372036854775808) = false := by simpa using ha0
      go_enter Tryz.func76, Tryz.ntmps76
      go_wp2_with fail
      go_region
      go_wp2_with fail
      refine (number_any _ _).mono ?_
      rintro e w1 ⟨rfl, b1⟩
      dsimp only [scal]
      have X1 := row_then (show (w.alloc (box 0 0)).drew.heap[w.heap.size]? = some (box 0 0) from HR.out) b1
      have c1 := row_cells X1
      have f1 := rowf X1
      have HX := Lib.hid X1
      have HB := Lib.hid (below_then (below1 w (box 0 0)).drew b1)
      unfold box at c1 f1
      clear X1 cg cR fR b1
      go_wp2_with fail
      generalize hV : World.setCell _ _ _ = V'
      obtain ⟨t1, t2⟩ := put5V HX.out hV
      have q := row_cells t2
      have HF := Lib.hid ((Only.of_below (S := []) HB.out).then_ t1 (fun x hx => .inr (by simp at hx; omega))).below
      clear hV t1 t2 c1 f1
      simp [bodyPost, results, Tryz.results76, go_sem, q]
      exact ⟨HF.out, by simp [scal]⟩

end Go.Proofs.YtcpbdmgkeljkgaaGreatDoor
