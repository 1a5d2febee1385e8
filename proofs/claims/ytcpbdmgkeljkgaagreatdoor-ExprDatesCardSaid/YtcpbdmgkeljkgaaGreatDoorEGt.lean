/- Which of two numbers is greater; what stands for null. No statement is proved here. -/
import Derived.Test.YtcpbdmgkeljkgaaGreatDoorEMx
namespace Go.Proofs.YtcpbdmgkeljkgaaGreatDoor
open Go.RowKit
set_option maxRecDepth 100000

set_option maxHeartbeats 2000000 in
/-- What is there is not null. -/
theorem orNull_any (t : T) (h : misT t = false) (w : World) : Calls Tryz.prog 139 #[t.arg] w fun e w' => e = .returned t.arg ∧ Below w.heap.size w w' := by
  have HM := Lib.hid (fun W => missing_any t W)
  rw [h] at HM
  obtain ⟨k, m, s, la, lc, l, da, dc, f⟩ := t
  dsimp only [T.arg, T.cells] at HM
  clear h
  have XB := row_then (heap_alloc_new (w.alloc (.cells #[.int .i64 k, .int .i64 m, .string s, .slice la l.length lc, .slice da f.length dc] 28 (0, 0))) (box 0 0)) (Below.refl _ _)
  rw [World.size_alloc] at XB
  have XA := row_then (heap_alloc_new w (.cells #[.int .i64 k, .int .i64 m, .string s, .slice la l.length lc, .slice da f.length dc] 28 (0, 0))) (below1 _ (box 0 0))
  have HB := Lib.hid (And.intro XB (And.intro XA (below2 w (.cells #[.int .i64 k, .int .i64 m, .string s, .slice la l.length lc, .slice da f.length dc] 28 (0, 0)) (box 0 0))))
  clear XB XA
  unfold box at HB
  show Calls _ _ #[.agg #[.int .i64 k, .int .i64 m, .string s, .slice la l.length lc, .slice da f.length dc]] _ _
  go_enter Tryz.func139, Tryz.ntmps139
  go_wp2_with fail
  refine (HM.out _).mono ?_
  rintro e w1 ⟨rfl, b1⟩
  have XA := row_then HB.out.2.1 b1
  have XB := row_then HB.out.1 b1
  have HX := Lib.hid (And.intro XB (below_then HB.out.2.2 b1))
  have cA := row_cells XA
  have cB := row_cells XB
  have fB := rowf XB
  clear XA XB b1
  go_wp2_with fail
  generalize hV : World.setCell _ _ _ = V'
  obtain ⟨t1, t2⟩ := put5V HX.out.1 hV
  have q := row_cells t2
  have HR := Lib.hid ((Only.of_below (S := []) HX.out.2).then_ t1 (fun x hx => .inr (by simp at hx; omega))).below
  clear hV t1 t2 cA cB fB
  simp [bodyPost, results, Tryz.results139, go_sem, q]
  exact ⟨by simp [T.arg, T.cells], HR.out⟩
theorem orNull_int (n : Int) (w : World) : Calls Tryz.prog 139 #[scal 3 n] w fun e w' => e = .returned (scal 3 n) ∧ Below w.heap.size w w' := orNull_any (intT n) (by simp [intT, misT]) w
set_option maxHeartbeats 4000000 in
theorem compare2_any {a b : Int} (ha : in64 a) (hb : in64 b) (w : World) (g : Nat) (h : w.heap[g]? = some (.cells (two a b) 28 (0, 0))) : Calls Tryz.prog 100 #[.slice (some ⟨g, 0, none⟩) 2 2] w fun e w' =>
    e = .returned (.int .i64 (cmpI a b)) ∧ Below w.heap.size w w' := by
  have hg := lt_of_block h
  have cg := row_cells h
  have HH := Lib.hid h
  have HA := Lib.hid (fun w => orNull_int a w)
  have HB := Lib.hid (fun w => orNull_int b w)
  have HC := Lib.hid (fun w => cmp_two ha hb w)
  unfold scal at HA HB HC
  unfold two at cg
  clear h
  go_enter Tryz.func100, Tryz.ntmps100
  go_wp2_with fail
  go_region_with (first
      | (go_at_call 139; (first | refine (HA.out _).mono ?_ | refine (HB.out _).mono ?_); rintro e w3 ⟨rfl, hb3⟩; have hacc : Below w.heap.size w w3 := (by first | exact below_then hacc hb3 | exact below_then hacc.drew hb3 | exact below_then (Below.refl _ w).drew hb3 | exact hb3); have hz3 := hb3.size; try dsimp only [World.drew] at hz3; have k3 := fun o => hb3.cell (p := ⟨g, o, none⟩) (by first | omega | (dsimp only [World.drew]; omega) | (simp; omega)))
      | (go_at_call 142; refine (HC.out _).mono ?_; rintro e w3 ⟨rfl, hb3⟩; have hacc : Below w.heap.size w w3 := (by first | exact below_then hacc hb3 | exact below_then hacc.drew hb3)))
  all_goals simp only [List.getElem_toArray, List.getElem_cons_succ, List.getElem_cons_zero, Act.put, List.setIfInBounds_toArray, List.set_cons_succ, List.set_cons_zero]
  all_goals go_wp2_with fail
  all_goals go_ret
  all_goals exact ⟨rfl, hacc⟩
theorem holds_gt (c : Int) (w : World) : Calls Tryz.prog 149 #[.int .i64 c] w fun e w' => e = .returned (.bool (decide (0 < c))) ∧ w' = w := by
  go_enter Tryz.func149, Tryz.ntmps149
  go_wp2_with fail
  go_ret
  exact ⟨rfl, rfl⟩
set_option maxHeartbeats 4000000 in
theorem gt2_any {a b : Int} (ha : in64 a) (hb : in64 b) (w : World) (g gp : Nat) (h : w.heap[g]? = some (.cells (two a b) 28 (0, 0))) (hp : w.heap[gp]? = some (.cells #[fOf 149] 96 (0, 0))) : Calls Tryz.prog 102 #[.slice (some ⟨g, 0, none⟩) 2 2, .pointer (some ⟨gp, 0, none⟩)] w fun e w' =>
    e = .returned (.tuple #[scal 9 (if b < a then 1 else 0), .int .i64 0]) ∧ Below w.heap.size w w' := by
  have HC := Lib.hid (fun w h => compare2_any ha hb w g h)
  have HH := Lib.hid (And.intro h hp)
  have x0 := heap_alloc_new w (box 0 0)
  have x1 := below1 w (box 0 0)
  have x2 := row_then h (below1 w (box 0 0))
  have x3 := row_then hp (below1 w (box 0 0))
  generalize hU : w.alloc (box 0 0) = U at x0 x1 x2 x3
  have HB := Lib.hid (And.intro x0 (And.intro x1 (And.intro x2 x3)))
  have HU := Lib.hid hU
  have hcp : decide (0 < cmpI a b) = decide (b < a) := by
    unfold cmpI
    split
    · rw [decide_eq_false (by omega), decide_eq_false (by omega)]
    · split
      · rename_i h; rw [decide_eq_true h]; rfl
      · rename_i h; rw [decide_eq_false h]; rfl
  obtain ⟨v, hv⟩ : ∃ v, (if b < a then (1 : Int) else 0) = v := ⟨_, rfl⟩
  have HT := Lib.hid (fun w => (truth_any (decide (0 < cmpI a b)) w).mono fun e w' h => (show e = .returned (scal 9 v) ∧ Below w.heap.size w w' by rw [hcp] at h; rw [← hv]; simpa using h))
  unfold scal at HT
  rw [hv]
  have HP := Lib.hid (fun (W : World) (hb : Below U.heap.size U W) => (row_cells (row_then x3 hb) 0))
  have cP := row_cells x3 0
  simp only [fOf] at HP cP
  unfold box at HU
  clear h hp x0 x1 x2 x3 hU hcp hv
  have HH2 := Lib.hid (fun c w => holds_gt c w)
  go_enter Tryz.func102, Tryz.ntmps102
  go_wp2_with fail
  rw [HU.out]
  go_region_with (first
      | (go_at_call 100; refine (HC.out U.drew HB.out.2.2.1).mono ?_; rintro e w3 ⟨rfl, hb3⟩; have hacc : Below U.heap.size U w3 := (by first | exact hb3 | exact below_then (Below.refl _ U).drew hb3); have cP3 := HP.out _ hacc)
      | (go_at_call 149; refine (HH2.out _ _).mono ?_; rintro e w3 ⟨rfl, rfl⟩)
      | (go_at_call 103; refine (HT.out _).mono ?_; rintro e w3 ⟨rfl, hb3⟩; have hacc : Below U.heap.size U w3 := (by first | exact below_then hacc hb3 | exact below_then hacc.drew hb3); have X3 := row_then HB.out.1 hacc; have cX := row_cells X3; have fX := rowf X3; unfold box at cX fX; have HX := Lib.hid X3; clear X3))
  all_goals simp only [List.getElem_toArray, List.getElem_cons_succ, List.getElem_cons_zero, Act.put, List.setIfInBounds_toArray, List.set_cons_succ, List.set_cons_zero]
  all_goals go_wp2_with fail
  all_goals generalize hV : World.setCell _ _ _ = V'
  all_goals obtain ⟨t1, t2⟩ := put5V HX.out hV
  all_goals have q := row_cells t2
  all_goals have HF := Lib.hid ((Only.of_below (S := []) (below_then HB.out.2.1 hacc)).then_ t1 (fun x hx => .inr (by simp at hx; omega))).below
  all_goals clear hV t1 t2 cX fX
  all_goals simp [bodyPost, results, Tryz.results102, go_sem, q]
  all_goals exact ⟨by simp [scal], HF.out⟩
def truT (b : Bool) : T := .mk 9 (if b then 1 else 0) ⟨#[]⟩ none 0 [] none 0 []
theorem truT_ok (b : Bool) : (truT b).ok := by
  cases b <;> simp [truT, T.ok, T.okL, T.okD, okInt, okLen, okFar] <;> decide
theorem truT_places (b : Bool) : (truT b).places = [] := by simp [truT, T.places, T.placesL, T.placesD]
theorem gt_made {W : World} {l : List Nod} {a b : Int} {gp : Nat} (ha : in64 a) (hb : in64 b) (hl : TwoN l a b) (hp : W.heap[gp]? = some (.cells #[fOf 149] 96 (0, 0))) : MadeTo' W 102 #[.pointer (some ⟨gp, 0, none⟩)] l (fun r => r = truT (decide (b < a))) 0 := by
  obtain ⟨x, y, rfl, hx, hy⟩ := hl
  intro w B gr rs hbel hlen hR _ _ hrow
  match rs, hlen with
  | [r1, r2], _ =>
    obtain rfl := hx r1 (hR 0 r1 x rfl rfl)
    obtain rfl := hy r2 (hR 1 r2 y rfl rfl)
    refine (gt2_any ha hb w gr gp (row_two hrow) (row_then hp hbel)).mono ?_
    rintro e w' ⟨rfl, hb⟩
    refine ⟨truT (decide (b < a)), ?_, rfl, truT_ok _, ?_, by rw [truT_places]; simp, hb⟩
    · by_cases h : b < a <;> simp [h, truT, T.arg, T.cells, scal]
    · intro p hp; rw [truT_places] at hp; simp at hp
end Go.Proofs.YtcpbdmgkeljkgaaGreatDoor
