/- What add, multiply, divide and modulo make of a list of two numbers. What subtract makes of two numbers. No statement is proved here. -/
import Derived.Test.YtcpbdmgkeljkgaaGreatDoorJ5
import Derived.Test.YtcpbdmgkeljkgaaGreatDoorESu
import Derived.Test.YtcpbdmgkeljkgaaGreatDoorEMu
namespace Go.Proofs.YtcpbdmgkeljkgaaGreatDoor
open Go.RowKit
set_option maxRecDepth 100000

theorem row_two {w : World} {B g : Nat} {a b : Int} (h : w.ownsRow B 28 5 (.slice (some ⟨g, 0, none⟩) 2 2) 2 ([intT a, intT b].flatMap T.cells)) : w.heap[g]? = some (.cells (two a b) 28 (0, 0)) := by
  obtain ⟨h1, h2⟩ := h
  rcases h2 with ⟨hv, -⟩ | ⟨g', cap', cur, hv, hb, hg, hkc, hm, hs, ht⟩
  · cases hv
  · injection hv with e1 e2 e3
    injection e1 with e1
    injection e1 with e1
    subst e1 e3
    rw [hg]
    have hcur : cur = two a b := by
      apply Array.ext'
      rw [List.take_of_length_le (by rw [Array.length_toList, hs]; exact Nat.le_refl _)] at ht
      rw [ht]
      rfl
    rw [hcur]
/-- Nodes that come to two numbers. -/
def TwoN (l : List Nod) (a b : Int) : Prop := ∃ x y, l = [x, y] ∧ (∀ r, x.R r → r = intT a) ∧ ∀ r, y.R r → r = intT b
theorem two_made {gM : FuncId} {l : List Nod} {a b : Int} (hl : TwoN l a b) {v : T} {err : Int} (hv : v.ok) (hvi : ∀ w, v.In w) (hvp : v.places = [])
    (h : ∀ (w : World) (g : Nat), w.heap[g]? = some (.cells (two a b) 28 (0, 0)) → Calls Tryz.prog gM #[.slice (some ⟨g, 0, none⟩) 2 2] w fun e w' => Below w.heap.size w w' ∧ e = .returned (.tuple #[v.arg, .int .i64 err])) : MadeTo gM l (fun r => r = v) err := by
  obtain ⟨x, y, rfl, hx, hy⟩ := hl
  intro w B gr rs hlen hR _ _ hrow
  match rs, hlen with
  | [r1, r2], _ =>
    obtain rfl := hx r1 (hR 0 r1 x rfl rfl)
    obtain rfl := hy r2 (hR 1 r2 y rfl rfl)
    refine (h w gr (row_two hrow)).mono ?_
    rintro e w' ⟨hb, rfl⟩
    exact ⟨v, rfl, rfl, hv, hvi _, by rw [hvp]; simp, hb⟩
theorem intT_ok {n : Int} (h : in64 n) : (intT n).ok := by
  unfold in64 at h
  simp [intT, T.ok, T.okL, T.okD, okInt, okLen, okFar, h]
  decide
theorem intT_in (n : Int) (w : World) : (intT n).In w := by intro p hp; simp [intT, T.places, T.placesL, T.placesD] at hp
theorem intT_places (n : Int) : (intT n).places = [] := by simp [intT, T.places, T.placesL, T.placesD]
theorem voidT_places : voidT.places = [] := by simp [voidT, T.places, T.placesL, T.placesD]
theorem add_made {l : List Nod} {a b : Int} (ha : in64 a) (hb : in64 b) (hl : TwoN l a b) : MadeTo 72 l (fun r => r = if in64 (a + b) then intT (a + b) else voidT) (if in64 (a + b) then 0 else 52) := by
  by_cases hf : in64 (a + b)
  · rw [if_pos hf, if_pos hf]
    exact two_made hl (intT_ok hf) (intT_in _) (intT_places _) fun w g h => (add2_any ha hb w g h).mono fun e w' ⟨h1, h2⟩ => ⟨h1, by rw [h2, if_pos hf]; rfl⟩
  · rw [if_neg hf, if_neg hf]
    exact two_made hl voidT_ok voidT_in voidT_places fun w g h => (add2_any ha hb w g h).mono fun e w' ⟨h1, h2⟩ => ⟨h1, by rw [h2, if_neg hf]; rfl⟩
theorem mul_made {l : List Nod} {a b : Int} (ha : in64 a) (hb : in64 b) (hl : TwoN l a b) : MadeTo 73 l (fun r => r = if in64 (a * b) then intT (a * b) else voidT) (if in64 (a * b) then 0 else 52) := by
  by_cases hf : in64 (a * b)
  · rw [if_pos hf, if_pos hf]
    exact two_made hl (intT_ok hf) (intT_in _) (intT_places _) fun w g h => (mul2_any ha hb w g h).mono fun e w' ⟨h1, h2⟩ => ⟨h1, by rw [h2, if_pos hf]; rfl⟩
  · rw [if_neg hf, if_neg hf]
    exact two_made hl voidT_ok voidT_in voidT_places fun w g h => (mul2_any ha hb w g h).mono fun e w' ⟨h1, h2⟩ => ⟨h1, by rw [h2, if_neg hf]; rfl⟩
theorem mod_made {l : List Nod} {a b : Int} (ha : in64 a) (hb : in64 b) (hm : in64 (a.tmod b)) (hl : TwoN l a b) : MadeTo 77 l (fun r => r = if b = 0 then voidT else intT (a.tmod b)) (if b = 0 then 53 else 0) := by
  by_cases hf : b = 0
  · rw [if_pos hf, if_pos hf]
    exact two_made hl voidT_ok voidT_in voidT_places fun w g h => (mod2_any ha hb w g h).mono fun e w' ⟨h1, h2⟩ => ⟨h1, by rw [h2, if_pos hf]; rfl⟩
  · rw [if_neg hf, if_neg hf]
    exact two_made hl (intT_ok hm) (intT_in _) (intT_places _) fun w g h => (mod2_any ha hb w g h).mono fun e w' ⟨h1, h2⟩ => ⟨h1, by rw [h2, if_neg hf]; rfl⟩
/-- Divided: what comes out, and the error. -/
def divT (a b : Int) : T := if b = 0 then voidT else if a = -9223372036854775808 ∧ b = -1 then voidT else intT (a.tdiv b)
def divE (a b : Int) : Int := if b = 0 then 53 else if a = -9223372036854775808 ∧ b = -1 then 52 else 0
theorem div_made {l : List Nod} {a b : Int} (ha : in64 a) (hb : in64 b) (hl : TwoN l a b) : MadeTo 76 l (fun r => r = divT a b) (divE a b) := by
  unfold divT divE
  by_cases hf : b = 0
  · rw [if_pos hf, if_pos hf]
    exact two_made hl voidT_ok voidT_in voidT_places fun w g h => (div2_any ha hb w g h).mono fun e w' ⟨h1, h2⟩ => ⟨h1, by rw [h2, if_pos hf]; rfl⟩
  · rw [if_neg hf, if_neg hf]
    by_cases hm : a = -9223372036854775808 ∧ b = -1
    · rw [if_pos hm, if_pos hm]
      exact two_made hl voidT_ok voidT_in voidT_places fun w g h => (div2_any ha hb w g h).mono fun e w' ⟨h1, h2⟩ => ⟨h1, by rw [h2, if_neg hf, if_pos hm]; rfl⟩
    · rw [if_neg hm, if_neg hm]
      exact two_made hl (intT_ok (div_within ha hf hm)) (intT_in _) (intT_places _) fun w g h => (div2_any ha hb w g h).mono fun e w' ⟨h1, h2⟩ => ⟨h1, by rw [h2, if_neg hf, if_neg hm]; rfl⟩
end Go.Proofs.YtcpbdmgkeljkgaaGreatDoor
namespace Go.Proofs.YtcpbdmgkeljkgaaGreatDoor
open Go.RowKit
set_option maxRecDepth 100000

set_option maxHeartbeats 4000000 in
theorem sub2_any {a b : Int} (ha : in64 a) (hb : in64 b) (w : World) (g : Nat) (h : w.heap[g]? = some (.cells (two a b) 28 (0, 0))) : Calls Tryz.prog 75 #[.slice (some ⟨g, 0, none⟩) 2 2] w fun e w' =>
    Below w.heap.size w w' ∧ e = .returned (.tuple (if in64 (a - b) then #[scal 3 (a - b), .int .i64 0] else #[scal 0 0, .int .i64 52])) := by
  have hg := lt_of_block h
  have cg := row_cells (row_then h (below1 w (box 0 0)))
  have HH := Lib.hid h
  unfold two at cg
  have d0 := cg 0
  have d1 := cg 1
  have d2 := cg 2
  have d3 := cg 3
  have d4 := cg 4
  have d5 := cg 5
  have d6 := cg 6
  have d7 := cg 7
  have d8 := cg 8
  have d9 := cg 9
  simp at d0 d1 d2 d3 d4 d5 d6 d7 d8 d9
  unfold box at d0 d1 d2 d3 d4 d5 d6 d7 d8 d9
  clear h
  by_cases hf : in64 (a - b)
  · have HM := Lib.hid (fun W => (minus_any ha hb W).mono fun e w' h => (show e = .returned (.tuple #[.int .i64 (a - b), .bool true]) ∧ w' = W by rw [wrap64_in hf, decide_eq_true hf] at h; exact h))
    rw [if_pos hf]
    go_enter Tryz.func75, Tryz.ntmps75
    go_wp2_with fail
    go_region_held3 (fun w' => w'.cell? ⟨g, 0, none⟩ = some (.int .i64 3) ∧ w'.cell? ⟨g, 1, none⟩ = some (.int .i64 a) ∧ w'.cell? ⟨g, 2, none⟩ = some (.string ⟨#[]⟩) ∧ w'.cell? ⟨g, 3, none⟩ = some (.slice none 0 0) ∧ w'.cell? ⟨g, 4, none⟩ = some (.slice none 0 0) ∧ w'.cell? ⟨g, 5, none⟩ = some (.int .i64 3) ∧ w'.cell? ⟨g, 6, none⟩ = some (.int .i64 b) ∧ w'.cell? ⟨g, 7, none⟩ = some (.string ⟨#[]⟩) ∧ w'.cell? ⟨g, 8, none⟩ = some (.slice none 0 0) ∧ w'.cell? ⟨g, 9, none⟩ = some (.slice none 0 0))
      (go_keep)
      (fail)
    all_goals clear d0 d1 d2 d3 d4 d5 d6 d7 d8 d9 cg
    all_goals go_wp2_with fail
    all_goals (refine (HM.out _).mono ?_; rintro e w1 ⟨rfl, rfl⟩)
    all_goals go_wp2_with fail
    all_goals (refine (number_any _ _).mono ?_; rintro e w2 ⟨rfl, b2⟩)
    all_goals dsimp only [scal]
    all_goals (have HX : Hid (w2.heap[w.heap.size]? = some (box 0 0)) := Lib.hid ((b2.block w.heap.size (by simp [World.drew]; omega)).trans (show ((((w.alloc (box 0 0)).alloc _).alloc _)).heap[w.heap.size]? = some (box 0 0) from row_then (heap_alloc_new w (box 0 0)) (below2 _ _ _))))
    all_goals (have HB : Hid (Below w.heap.size w w2) := Lib.hid (below_then (below3 w _ _ _).drew b2))
    all_goals (have c1 := row_cells HX.out)
    all_goals (have f1 := rowf HX.out)
    all_goals unfold box at c1 f1
    all_goals clear b2
    all_goals go_wp2_with fail
    all_goals generalize hV : World.setCell _ _ _ = V'
    all_goals obtain ⟨t1, t2⟩ := put5V HX.out hV
    all_goals have q := row_cells t2
    all_goals have HF := Lib.hid ((Only.of_below (S := []) HB.out).then_ t1 (fun x hx => .inr (by simp at hx; omega))).below
    all_goals clear hV t1 t2 c1 f1
    all_goals simp [bodyPost, results, Tryz.results75, go_sem, q]
    all_goals exact ⟨HF.out, by simp [scal]⟩
  · have HM := Lib.hid (fun W => (minus_any ha hb W).mono fun e w' h => (show e = .returned (.tuple #[.int .i64 (wrap64 (a - b)), .bool false]) ∧ w' = W by rw [decide_eq_false hf] at h; exact h))
    rw [if_neg hf]
    go_enter Tryz.func75, Tryz.ntmps75
    go_wp2_with fail
    go_region_held3 (fun w' => w'.cell? ⟨g, 0, none⟩ = some (.int .i64 3) ∧ w'.cell? ⟨g, 1, none⟩ = some (.int .i64 a) ∧ w'.cell? ⟨g, 2, none⟩ = some (.string ⟨#[]⟩) ∧ w'.cell? ⟨g, 3, none⟩ = some (.slice none 0 0) ∧ w'.cell? ⟨g, 4, none⟩ = some (.slice none 0 0) ∧ w'.cell? ⟨g, 5, none⟩ = some (.int .i64 3) ∧ w'.cell? ⟨g, 6, none⟩ = some (.int .i64 b) ∧ w'.cell? ⟨g, 7, none⟩ = some (.string ⟨#[]⟩) ∧ w'.cell? ⟨g, 8, none⟩ = some (.slice none 0 0) ∧ w'.cell? ⟨g, 9, none⟩ = some (.slice none 0 0))
      (go_keep)
      (fail)
    all_goals clear d0 d1 d2 d3 d4 d5 d6 d7 d8 d9 cg
    all_goals go_wp2_with fail
    all_goals (refine (HM.out _).mono ?_; rintro e w1 ⟨rfl, rfl⟩)
    all_goals go_wp2_with fail
    all_goals simp [bodyPost, results, Tryz.results75, go_sem]
    all_goals exact ⟨(below3 w _ _ _).drew, by simp [scal]⟩
theorem sub_made {l : List Nod} {a b : Int} (ha : in64 a) (hb : in64 b) (hl : TwoN l a b) : MadeTo 75 l (fun r => r = if in64 (a - b) then intT (a - b) else voidT) (if in64 (a - b) then 0 else 52) := by
  by_cases hf : in64 (a - b)
  · rw [if_pos hf, if_pos hf]
    exact two_made hl (intT_ok hf) (intT_in _) (intT_places _) fun w g h => (sub2_any ha hb w g h).mono fun e w' ⟨h1, h2⟩ => ⟨h1, by rw [h2, if_pos hf]; rfl⟩
  · rw [if_neg hf, if_neg hf]
    exact two_made hl voidT_ok voidT_in voidT_places fun w g h => (sub2_any ha hb w g h).mono fun e w' ⟨h1, h2⟩ => ⟨h1, by rw [h2, if_neg hf]; rfl⟩
end Go.Proofs.YtcpbdmgkeljkgaaGreatDoor
