/- What layer 5's add and multiply make of two numbers. No statement is proved here. -/
import Derived.Test.YtcpbdmgkeljkgaaGreatDoorEAr
import Derived.Test.YtcpbdmgkeljkgaaGreatDoorMark
namespace Go.Proofs.YtcpbdmgkeljkgaaGreatDoor
open Go.RowKit
set_option maxRecDepth 100000

theorem put5row {w : World} {g : Nat} {t : TypeId} {a0 a1 a2 a3 a4 : Value} (h : w.heap[g]? = some (.cells #[a0, a1, a2, a3, a4] t (0, 0))) (b0 b1 b2 b3 b4 : Value) :
    (((((w.setCell ⟨g, 0, none⟩ b0).setCell ⟨g, 1, none⟩ b1).setCell ⟨g, 2, none⟩ b2).setCell ⟨g, 3, none⟩ b3).setCell ⟨g, 4, none⟩ b4).heap[g]? = some (.cells #[b0, b1, b2, b3, b4] t (0, 0)) := by
  have h1 := heap_setCell_same _ g 0 _ t b0 h
  have h2 := heap_setCell_same _ g 1 _ t b1 h1
  have h3 := heap_setCell_same _ g 2 _ t b2 h2
  have h4 := heap_setCell_same _ g 3 _ t b3 h3
  have h5 := heap_setCell_same _ g 4 _ t b4 h4
  exact h5
theorem put5only (w : World) (g : Nat) (b0 b1 b2 b3 b4 : Value) : Only [g] w (((((w.setCell ⟨g, 0, none⟩ b0).setCell ⟨g, 1, none⟩ b1).setCell ⟨g, 2, none⟩ b2).setCell ⟨g, 3, none⟩ b3).setCell ⟨g, 4, none⟩ b4) :=
  (((((Only.refl [g] w).setCell (p := ⟨g, 0, none⟩) (.inl (by simp)) b0).setCell (p := ⟨g, 1, none⟩) (.inl (by simp)) b1).setCell (p := ⟨g, 2, none⟩) (.inl (by simp)) b2).setCell (p := ⟨g, 3, none⟩) (.inl (by simp)) b3).setCell (p := ⟨g, 4, none⟩) (.inl (by simp)) b4
theorem rowf {w : World} {g : Nat} {cs : Array Value} {t : TypeId} (h : w.heap[g]? = some (.cells cs t (0, 0))) : ∀ o, w.frozen? ⟨g, o, none⟩ = false := fun o => frozen_of_row w g o cs t h
theorem put5V {W V : World} {R : Nat} {t : TypeId} {x0 x1 x2 x3 x4 v0 v1 v2 v3 v4 : Value} (r : W.heap[R]? = some (.cells #[x0, x1, x2, x3, x4] t (0, 0))) (hV : (((((W.setCell ⟨R, 0, none⟩ v0).setCell ⟨R, 1, none⟩ v1).setCell ⟨R, 2, none⟩ v2).setCell ⟨R, 3, none⟩ v3).setCell ⟨R, 4, none⟩ v4) = V) : Only [R] W V ∧ V.heap[R]? = some (.cells #[v0, v1, v2, v3, v4] t (0, 0)) := by
  subst hV
  exact ⟨put5only _ _ _ _ _ _ _, put5row r _ _ _ _ _⟩
/-- Two numbers, side by side. -/
def two (a b : Int) : Array Value := #[.int .i64 3, .int .i64 a, .string ⟨#[]⟩, .slice none 0 0, .slice none 0 0, .int .i64 3, .int .i64 b, .string ⟨#[]⟩, .slice none 0 0, .slice none 0 0]
def box (k n : Int) : Obj := .cells #[.int .i64 k, .int .i64 n, .string ⟨#[]⟩, .slice none 0 0, .slice none 0 0] 28
theorem box_put {w : World} {g : Nat} {k n : Int} (h : w.heap[g]? = some (box k n)) (m : Int) : (w.setCell ⟨g, 1, none⟩ (.int .i64 m)).heap[g]? = some (box k m) := by
  unfold box at h
  rw [heap_setCell_same _ g 1 _ _ _ h]
  rfl
set_option maxHeartbeats 8000000 in
theorem add2_any {a b : Int} (ha : in64 a) (hb : in64 b) (w : World) (g : Nat) (h : w.heap[g]? = some (.cells (two a b) 28 (0, 0))) : Calls Tryz.prog 72 #[.slice (some ⟨g, 0, none⟩) 2 2] w fun e w' =>
    Below w.heap.size w w' ∧ e = .returned (.tuple (if in64 (a + b) then #[scal 3 (a + b), .int .i64 0] else #[scal 0 0, .int .i64 52])) := by
  have hg := lt_of_block h
  have HH := Lib.hid h
  have h0 : in64 0 := by unfold in64; omega
  have HP0 := Lib.hid (fun W => (plus_any h0 ha W).mono fun e w' h => (show e = .returned (.tuple #[.int .i64 a, .bool true]) ∧ w' = W by rw [Int.zero_add, wrap64_in ha, decide_eq_true ha] at h; exact h))
  have HP1 := Lib.hid (fun W => plus_any ha hb W)
  clear h
  go_enter Tryz.func72, Tryz.ntmps72
  go_wp2_with fail
  refine (number_any 0 _).mono ?_
  rintro e w1 ⟨rfl, b1⟩
  dsimp only [scal]
  have HB := Lib.hid (And.intro (row_then (row_then (row_then HH.out (below1 _ _)) b1) (below1 w1 (box 3 0))) (And.intro (heap_alloc_new w1 (box 3 0)) (And.intro (below_then (below_then (below1 w (box 0 0)) b1) (below1 w1 (box 3 0))) (row_then (row_then (heap_alloc_new w (box 0 0)) b1) (below1 w1 (box 3 0))))))
  have hs := b1.size
  rw [World.size_alloc] at hs
  have hgO : g ≠ w1.heap.size := by omega
  have hwO : w.heap.size ≠ w1.heap.size := by omega
  clear b1
  unfold box at HB
  go_wp2_with fail
  generalize w1.alloc _ = U at HB ⊢
  generalize hO : w1.heap.size = O at HB hs hgO hwO ⊢
  clear hO
  go_loopw [14] (fun x W => ∃ k : Nat, k ≤ 2 ∧ x = .int .i64 k ∧ Below U.heap.size U W) (fun x _ => 2 - (intOf x).toNat)
  case atStart => exact ⟨0, by omega, rfl, Below.refl _ _⟩
  case round =>
    obtain ⟨k, hk, rfl, hb0⟩ := hrel
    have HB0 := Lib.hid hb0
    have cg := row_cells (row_then HB.out.1 hb0)
    have cO := row_cells (row_then HB.out.2.1 hb0)
    unfold two at cg
    clear hb0
    have hcs : k = 0 ∨ k = 1 ∨ k = 2 := by omega
    rcases hcs with rfl | rfl | hk2
    · go_wp2_with fail
      go_roundw
      case rel => exact ⟨1, by omega, rfl, below_then HB0.out (below1 _ _)⟩
      case measure => decide
    · go_wp2_with fail
      go_roundw
      case rel => exact ⟨2, by omega, rfl, below_then HB0.out (below1 _ _)⟩
      case measure => decide
    · rw [show (k : Int) = 2 by omega]
      have HB2 := Lib.hid (And.intro (row_then HB.out.1 HB0.out) (And.intro (row_then HB.out.2.1 HB0.out) (And.intro (below_then HB.out.2.2.1 HB0.out) (row_then HB.out.2.2.2 HB0.out))))
      clear cg cO HB HB0
      go_wp2_with fail
      obtain ⟨W1, hW1⟩ : ∃ W1, W1 = wr := ⟨_, rfl⟩
      subst hW1
      go_loopw [34] (fun x W => ∃ (k : Nat) (s : Int), k ≤ 2 ∧ x = .int .i64 k ∧ (k = 0 → s = 0) ∧ (k = 1 → s = a) ∧ (k = 2 → s = a + b ∧ in64 (a + b)) ∧ Only [O] W1 W ∧ W.heap[O]? = some (box 3 s)) (fun x _ => 2 - (intOf x).toNat)
      case atStart => exact ⟨0, 0, by omega, rfl, fun _ => rfl, by omega, by omega, Only.refl _ _, HB2.out.2.1⟩
      case round =>
        obtain ⟨W, hW⟩ : ∃ W, W = wr := ⟨_, rfl⟩
        subst hW
        obtain ⟨k, s, hk, rfl, e0, e1, e2, ho, hWO⟩ := hrel
        have hOW := lt_of_block hWO
        have cg := row_cells (keep_row ho HB2.out.1 (by simpa using hgO))
        have hcs : k = 0 ∨ k = 1 ∨ k = 2 := by omega
        rcases hcs with rfl | rfl | rfl
        · obtain rfl := e0 rfl
          have X1 := row_then hWO (below1 W (box 3 a))
          have cX := row_cells X1
          have cV := row_cells (heap_alloc_new W (box 3 a))
          have fX := rowf X1
          have HX := Lib.hid (And.intro ho hWO)
          unfold two at cg
          unfold box at cX cV fX
          clear e0 e1 e2 X1 ho hWO
          go_wp2_with fail
          refine (HP0.out _).mono ?_
          rintro e w3 ⟨rfl, rfl⟩
          go_wp2_with fail
          go_roundw
          case rel => exact ⟨1, a, by omega, rfl, by omega, fun _ => rfl, by omega, (HX.out.1.setCell (p := ⟨O, 1, none⟩) (.inl (by simp)) _).alloc _, row_then (box_put HX.out.2 a) (below1 _ _)⟩
          case measure => decide
        · obtain rfl := e1 rfl
          have X1 := row_then hWO (below1 W (box 3 b))
          have cX := row_cells X1
          have cV := row_cells (heap_alloc_new W (box 3 b))
          have fX := rowf X1
          have HX := Lib.hid (And.intro ho hWO)
          have XR := row_then (keep_row ho HB2.out.2.2.2 (by simpa using hwO)) (below1 W (box 3 b))
          have cR := row_cells XR
          have fR := rowf XR
          have HXR := Lib.hid XR
          unfold two at cg
          unfold box at cX cV fX cR fR
          clear e0 e1 e2 X1 ho hWO XR
          go_wp2_with fail
          refine (HP1.out _).mono ?_
          rintro e w3 ⟨rfl, rfl⟩
          by_cases hf : in64 (s + b)
          · rw [decide_eq_true hf, wrap64_in hf]
            go_wp2_with fail
            go_roundw
            case rel => exact ⟨2, s + b, by omega, rfl, by omega, by omega, fun _ => ⟨rfl, hf⟩, (HX.out.1.setCell (p := ⟨O, 1, none⟩) (.inl (by simp)) _).alloc _, row_then (box_put HX.out.2 (s + b)) (below1 _ _)⟩
            case measure => decide
          · rw [decide_eq_false hf]
            go_wp2_with fail
            generalize hV : World.setCell _ _ _ = V
            obtain ⟨t1, t2⟩ := put5V HXR.out hV
            have q := row_cells t2
            have HF := Lib.hid (((((Only.of_below (S := []) HB2.out.2.2.1).then_ HX.out.1 (fun x hx => .inr (by simp at hx; omega))).trans (Only.of_below (below1 W (box 3 b)))).then_ t1 (fun x hx => .inr (by simp at hx; omega))).below)
            clear hV t1 t2 cR fR cX cg
            simp [bodyPost, results, Tryz.results72, go_sem, q]
            exact ⟨HF.out, by simp [scal]⟩
        · obtain ⟨rfl, hf⟩ := e2 rfl
          have XR := keep_row ho HB2.out.2.2.2 (by simpa using hwO)
          have cR := row_cells XR
          have fR := rowf XR
          have cX := row_cells hWO
          unfold box at cX cR fR
          have HX := Lib.hid (And.intro ho hWO)
          have HXR := Lib.hid XR
          clear XR ho hWO e0 e1
          go_wp2_with fail
          generalize hV : World.setCell _ _ _ = V
          obtain ⟨t1, t2⟩ := put5V HXR.out hV
          have q := row_cells t2
          have HF := Lib.hid ((((Only.of_below (S := []) HB2.out.2.2.1).then_ HX.out.1 (fun x hx => .inr (by simp at hx; omega))).then_ t1 (fun x hx => .inr (by simp at hx; omega))).below)
          clear hV t1 t2 cR fR cX cg
          simp [bodyPost, results, Tryz.results72, go_sem, q]
          exact ⟨HF.out, by simp [scal, hf]⟩
end Go.Proofs.YtcpbdmgkeljkgaaGreatDoor
