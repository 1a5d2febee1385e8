/- The contract of the document's own plain: no statement is proved here. -/
import Derived.Test.YtjhmmkfhbiikdaaDoorRight2
import Derived.Test.YtjhmmkfhbiikdaaDoorSame
namespace Go.Proofs.YtjhmmkfhbiikdaaDoor
open Go.RowKit
set_option maxRecDepth 100000

def PlainAt (t : T) (w : World) : Prop := Calls Tryd.prog 55 #[t.arg] w fun e w' => e = .returned (.bool (aloneV t.val && fitsV t.val)) ∧ Below w.heap.size w w'
set_option maxHeartbeats 8000000 in
theorem plain_any (t : T) (ok : t.ok) (w : World) (hT : Tabs w) : PlainAt t w := by
  obtain ⟨kx, nx, sx, lax, lcx, lx, dax, dcx, dx⟩ := t
  show Calls _ _ #[.agg #[.int .i64 kx, .int .i64 nx, .string sx, .slice lax lx.length lcx, .slice dax dx.length dcx]] _ _
  obtain ⟨-, -, -, -, hs, hl1, hl2, hd1, hd2, okl, okd⟩ := ok.parts
  clear okl okd ok
  have HV := Lib.hid (fun w h => valid_any sx w (by omega) h)
  have HW := Lib.hid (show (aloneV (T.mk kx nx sx lax lcx lx dax dcx dx).val && fitsV (T.mk kx nx sx lax lcx lx dax dcx dx).val) = _ by rw [T.val_mk, aloneV, fitsV, List.length_map, List.length_map])
  generalize hv : Lib.validD sx.data.toList = valid at HV HW
  generalize hq : (aloneV (T.mk kx nx sx lax lcx lx dax dcx dx).val && fitsV (T.mk kx nx sx lax lcx lx dax dcx dx).val) = q at HW ⊢
  clear hv hq hl1 hl2 hd1 hd2
  generalize lx.length = ll at HW ⊢
  generalize dx.length = dl at HW ⊢
  by_cases k3 : kx = 3
  · subst k3
    rcases Nat.eq_zero_or_pos ll with hl | hl <;> rcases Nat.eq_zero_or_pos dl with hd | hd
    all_goals
      try subst hl
      try subst hd
      go_enter Tryd.func55, Tryd.ntmps55
      go_wp2_with (go_at_call 65; refine (HV.out _ (hT.then_ (below1 _ _))).mono ?_; rintro e w1 ⟨rfl, b1⟩; have fa : ∀ o, w1.cell? ⟨w.heap.size, o, none⟩ = _ := row_cells (row_then (heap_alloc_new w (.cells _ 25)) b1))
      all_goals
        go_ret
        refine ⟨ret_bool ?_, by first | exact below1 _ _ | exact below_then (below1 _ _) b1⟩
        rw [HW.out]
        go_light
        first | (simp; done) | (simp_all; done) | (simp; omega) | (simp_all; omega)
  by_cases k10 : kx = 10
  · subst k10
    rcases Nat.eq_zero_or_pos ll with hl | hl <;> rcases Nat.eq_zero_or_pos dl with hd | hd
    all_goals
      try subst hl
      try subst hd
      go_enter Tryd.func55, Tryd.ntmps55
      go_wp2_with (go_at_call 65; refine (HV.out _ (hT.then_ (below1 _ _))).mono ?_; rintro e w1 ⟨rfl, b1⟩; have fa : ∀ o, w1.cell? ⟨w.heap.size, o, none⟩ = _ := row_cells (row_then (heap_alloc_new w (.cells _ 25)) b1))
      all_goals
        go_ret
        refine ⟨ret_bool ?_, by first | exact below1 _ _ | exact below_then (below1 _ _) b1⟩
        rw [HW.out]
        go_light
        first | (simp; done) | (simp_all; done) | (simp; omega) | (simp_all; omega)
  by_cases k9 : kx = 9
  · subst k9
    rcases Nat.eq_zero_or_pos ll with hl | hl <;> rcases Nat.eq_zero_or_pos dl with hd | hd
    all_goals
      try subst hl
      try subst hd
      go_enter Tryd.func55, Tryd.ntmps55
      go_wp2_with (go_at_call 65; refine (HV.out _ (hT.then_ (below1 _ _))).mono ?_; rintro e w1 ⟨rfl, b1⟩; have fa : ∀ o, w1.cell? ⟨w.heap.size, o, none⟩ = _ := row_cells (row_then (heap_alloc_new w (.cells _ 25)) b1))
      all_goals
        go_ret
        refine ⟨ret_bool ?_, by first | exact below1 _ _ | exact below_then (below1 _ _) b1⟩
        rw [HW.out]
        go_light
        first | (simp; done) | (simp_all; done) | (simp; omega) | (simp_all; omega)
  by_cases k4 : kx = 4
  · subst k4
    rcases Nat.eq_zero_or_pos ll with hl | hl <;> rcases Nat.eq_zero_or_pos dl with hd | hd
    all_goals
      try subst hl
      try subst hd
      go_enter Tryd.func55, Tryd.ntmps55
      go_wp2_with (go_at_call 65; refine (HV.out _ (hT.then_ (below1 _ _))).mono ?_; rintro e w1 ⟨rfl, b1⟩; have fa : ∀ o, w1.cell? ⟨w.heap.size, o, none⟩ = _ := row_cells (row_then (heap_alloc_new w (.cells _ 25)) b1))
      all_goals
        go_ret
        refine ⟨ret_bool ?_, by first | exact below1 _ _ | exact below_then (below1 _ _) b1⟩
        rw [HW.out]
        go_light
        first | (simp; done) | (simp_all; done) | (simp; omega) | (simp_all; omega)
  by_cases k7 : kx = 7
  · subst k7
    rcases Nat.eq_zero_or_pos ll with hl | hl <;> rcases Nat.eq_zero_or_pos dl with hd | hd
    all_goals
      try subst hl
      try subst hd
      go_enter Tryd.func55, Tryd.ntmps55
      go_wp2_with (go_at_call 65; refine (HV.out _ (hT.then_ (below1 _ _))).mono ?_; rintro e w1 ⟨rfl, b1⟩; have fa : ∀ o, w1.cell? ⟨w.heap.size, o, none⟩ = _ := row_cells (row_then (heap_alloc_new w (.cells _ 25)) b1))
      all_goals
        go_ret
        refine ⟨ret_bool ?_, by first | exact below1 _ _ | exact below_then (below1 _ _) b1⟩
        rw [HW.out]
        go_light
        first | (simp; done) | (simp_all; done) | (simp; omega) | (simp_all; omega)
  by_cases k8 : kx = 8
  · subst k8
    rcases Nat.eq_zero_or_pos ll with hl | hl <;> rcases Nat.eq_zero_or_pos dl with hd | hd
    all_goals
      try subst hl
      try subst hd
      go_enter Tryd.func55, Tryd.ntmps55
      go_wp2_with (go_at_call 65; refine (HV.out _ (hT.then_ (below1 _ _))).mono ?_; rintro e w1 ⟨rfl, b1⟩; have fa : ∀ o, w1.cell? ⟨w.heap.size, o, none⟩ = _ := row_cells (row_then (heap_alloc_new w (.cells _ 25)) b1))
      all_goals
        go_ret
        refine ⟨ret_bool ?_, by first | exact below1 _ _ | exact below_then (below1 _ _) b1⟩
        rw [HW.out]
        go_light
        first | (simp; done) | (simp_all; done) | (simp; omega) | (simp_all; omega)
  by_cases k6 : kx = 6
  · subst k6
    rcases Nat.eq_zero_or_pos ll with hl | hl <;> rcases Nat.eq_zero_or_pos dl with hd | hd
    all_goals
      try subst hl
      try subst hd
      go_enter Tryd.func55, Tryd.ntmps55
      go_wp2_with (go_at_call 65; refine (HV.out _ (hT.then_ (below1 _ _))).mono ?_; rintro e w1 ⟨rfl, b1⟩; have fa : ∀ o, w1.cell? ⟨w.heap.size, o, none⟩ = _ := row_cells (row_then (heap_alloc_new w (.cells _ 25)) b1))
      all_goals
        go_ret
        refine ⟨ret_bool ?_, by first | exact below1 _ _ | exact below_then (below1 _ _) b1⟩
        rw [HW.out]
        go_light
        first | (simp; done) | (simp_all; done) | (simp; omega) | (simp_all; omega)
  by_cases k5 : kx = 5
  · subst k5
    rcases Nat.eq_zero_or_pos ll with hl | hl <;> rcases Nat.eq_zero_or_pos dl with hd | hd
    all_goals
      try subst hl
      try subst hd
      go_enter Tryd.func55, Tryd.ntmps55
      go_wp2_with (go_at_call 65; refine (HV.out _ (hT.then_ (below1 _ _))).mono ?_; rintro e w1 ⟨rfl, b1⟩; have fa : ∀ o, w1.cell? ⟨w.heap.size, o, none⟩ = _ := row_cells (row_then (heap_alloc_new w (.cells _ 25)) b1))
      all_goals
        go_ret
        refine ⟨ret_bool ?_, by first | exact below1 _ _ | exact below_then (below1 _ _) b1⟩
        rw [HW.out]
        go_light
        first | (simp; done) | (simp_all; done) | (simp; omega) | (simp_all; omega)
  have b3 : ((kx : Int) == 3) = false := by simp [k3]
  have b4 : ((kx : Int) == 4) = false := by simp [k4]
  have b5 : ((kx : Int) == 5) = false := by simp [k5]
  have b6 : ((kx : Int) == 6) = false := by simp [k6]
  have b7 : ((kx : Int) == 7) = false := by simp [k7]
  have b8 : ((kx : Int) == 8) = false := by simp [k8]
  have b9 : ((kx : Int) == 9) = false := by simp [k9]
  have b10 : ((kx : Int) == 10) = false := by simp [k10]
  have c5 : ((kx : Int) != 5) = true := by simp [k5]
  have c6 : ((kx : Int) != 6) = true := by simp [k6]
  replace HW := Lib.hid (show q = ((nx == 0) && ((sx.toList == []) && ((ll == 0) && (dl == 0))) && (decide (1 ≤ kx) && decide (kx ≤ 11))) by rw [HW.out]; simp [k3, k4, k5, k6, k7, k8, k9, k10])
  clear k3 k4 k5 k6 k7 k8 k9 k10
  rcases Nat.eq_zero_or_pos ll with hl | hl <;> rcases Nat.eq_zero_or_pos dl with hd | hd
  all_goals
      try subst hl
      try subst hd
      go_enter Tryd.func55, Tryd.ntmps55
      go_wp2_with (go_at_call 65; refine (HV.out _ (hT.then_ (below1 _ _))).mono ?_; rintro e w1 ⟨rfl, b1⟩; have fa : ∀ o, w1.cell? ⟨w.heap.size, o, none⟩ = _ := row_cells (row_then (heap_alloc_new w (.cells _ 25)) b1))
      all_goals
        go_ret
        refine ⟨ret_bool ?_, by first | exact below1 _ _ | exact below_then (below1 _ _) b1⟩
        rw [HW.out]
        go_light
        first | (simp; done) | (simp_all; done) | (simp; omega) | (simp_all; omega)
end Go.Proofs.YtjhmmkfhbiikdaaDoor
