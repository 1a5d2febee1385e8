/- What layer 5's multiply makes of two numbers. No statement is proved here. -/
import Derived.Test.YtcpbdmgkeljkgaaGreatDoorEAd
namespace Go.Proofs.YtcpbdmgkeljkgaaGreatDoor
open Go.RowKit
set_option maxRecDepth 100000

set_option maxHeartbeats 8000000 in
theorem mul2_any {a b : Int} (ha : in64 a) (hb : in64 b) (w : World) (g : Nat) (h : w.heap[g]? = some (.cells (two a b) 28 (0, 0))) : Calls Tryz.prog 73 #[.slice (some ⟨g, 0, none⟩) 2 2] w fun e w' =>
    Below w.heap.size w w' ∧ e = .returned (.tuple (if in64 (a * b) then #[scal 3 (a * b), .int .i64 0] else #[scal 0 0, .int .i64 52])) := by
  have hg := lt_of_block h
  have HH := Lib.hid h
  have h0 : in64 1 := by unfold in64; omega
  have HP0 := Lib.hid (fun W => (times_any h0 ha W).mono fun e w' h => (show e = .returned (.tuple #[.int .i64 a, .bool true]) ∧ Below W.heap.size W w' by rw [Int.one_mul, wrap64_in ha, decide_eq_true ha] at h; exact h))
  have HP1 := Lib.hid (fun W => times_any ha hb W)
  clear h
  go_enter Tryz.func73, Tryz.ntmps73
  go_wp2_with fail
  refine (number_any 1 _).mono ?_
  rintro e w1 ⟨rfl, b1⟩
  dsimp only [scal]
  have HB := Lib.hid (And.intro (row_then (row_then (row_then HH.out (below1 _ _)) b1) (below1 w1 (box 3 1))) (And.intro (heap_alloc_new w1 (box 3 1)) (And.intro (below_then (below_then (below1 w (box 0 0)) b1) (below1 w1 (box 3 1))) (row_then (row_then (heap_alloc_new w (box 0 0)) b1) (below1 w1 (box 3 1))))))
  have hs := b1.size
  rw [World.size_alloc] at hs
  have hgO : g ≠ w1.heap.size := by omega
  have hwO : w.heap.size ≠ w1.heap.size := by omega
  clear b1
  unfold box at HB
  go_wp2_with fail
  generalize w1.alloc _ = U at HB ⊢
  generalize hO : w1.heap.size = O at HB hs hgO hwO ⊢
  clear hO
  go_loopw [12] (fun x W => ∃ (k : Nat) (s : Int), k ≤ 2 ∧ x = .int .i64 k ∧ (k = 0 → s = 1) ∧ (k = 1 → s = a) ∧ (k = 2 → s = a * b ∧ in64 (a * b)) ∧ Only [O] U W ∧ W.heap[O]? = some (box 3 s)) (fun x _ => 2 - (intOf x).toNat)
  case atStart => exact ⟨0, 1, by omega, rfl, fun _ => rfl, by omega, by omega, Only.refl _ _, HB.out.2.1⟩
  case round =>
    obtain ⟨W, hW⟩ : ∃ W, W = wr := ⟨_, rfl⟩
    subst hW
    obtain ⟨k, s, hk, rfl, e0, e1, e2, ho, hWO⟩ := hrel
    have hOW := lt_of_block hWO
    have cg := row_cells (keep_row ho HB.out.1 (by simpa using hgO))
    have hcs : k = 0 ∨ k = 1 ∨ k = 2 := by omega
    rcases hcs with rfl | rfl | rfl
    · obtain rfl := e0 rfl
      have X1 := row_then hWO (below1 W (box 3 a))
      have cX := row_cells X1
      have cV := row_cells (heap_alloc_new W (box 3 a))
      have HX := Lib.hid (And.intro ho hWO)
      have XR := row_then (keep_row ho HB.out.2.2.2 (by simpa using hwO)) (below1 W (box 3 a))
      have HXR := Lib.hid (And.intro XR X1)
      have bX := below1 W (box 3 a)
      unfold two at cg
      unfold box at cX cV bX
      clear e0 e1 e2 X1 ho hWO XR
      go_wp2_with fail
      refine (HP0.out _).mono ?_
      rintro e w3 ⟨rfl, b3⟩
      have XO := row_then HXR.out.2 b3
      have XR := row_then HXR.out.1 b3
      have oW := (HX.out.1.trans (Only.of_below bX)).trans (Only.of_below b3)
      have cO := row_cells XO
      have fO := rowf XO
      have cR := row_cells XR
      have fR := rowf XR
      have H3 := Lib.hid (And.intro XO (And.intro XR oW))
      unfold box at cO fO cR fR
      clear XO XR oW b3 cX cV bX
      go_wp2_with fail
      go_roundw
      case rel => exact ⟨1, a, by omega, rfl, by omega, fun _ => rfl, by omega, H3.out.2.2.setCell (p := ⟨O, 1, none⟩) (.inl (by simp)) _, box_put H3.out.1 a⟩
      case measure => decide
    · obtain rfl := e1 rfl
      have X1 := row_then hWO (below1 W (box 3 b))
      have cX := row_cells X1
      have cV := row_cells (heap_alloc_new W (box 3 b))
      have HX := Lib.hid (And.intro ho hWO)
      have XR := row_then (keep_row ho HB.out.2.2.2 (by simpa using hwO)) (below1 W (box 3 b))
      have HXR := Lib.hid (And.intro XR X1)
      have bX := below1 W (box 3 b)
      unfold two at cg
      unfold box at cX cV bX
      clear e0 e1 e2 X1 ho hWO XR
      go_wp2_with fail
      refine (HP1.out _).mono ?_
      rintro e w3 ⟨rfl, b3⟩
      have XO := row_then HXR.out.2 b3
      have XR := row_then HXR.out.1 b3
      have oW := (HX.out.1.trans (Only.of_below bX)).trans (Only.of_below b3)
      have cO := row_cells XO
      have fO := rowf XO
      have cR := row_cells XR
      have fR := rowf XR
      have H3 := Lib.hid (And.intro XO (And.intro XR oW))
      unfold box at cO fO cR fR
      clear XO XR oW b3 cX cV bX
      by_cases hf : in64 (s * b)
      · rw [decide_eq_true hf, wrap64_in hf]
        have HF0 := Lib.hid hf
        obtain ⟨sb, hsb⟩ : ∃ sb, s * b = sb := ⟨_, rfl⟩
        have HS := Lib.hid hsb
        rw [hsb]
        clear hsb
        go_wp2_with fail
        go_roundw
        case rel => exact ⟨2, sb, by omega, rfl, by omega, by omega, fun _ => ⟨HS.out.symm, HF0.out⟩, H3.out.2.2.setCell (p := ⟨O, 1, none⟩) (.inl (by simp)) _, box_put H3.out.1 sb⟩
        case measure => decide
      · rw [decide_eq_false hf]
        obtain ⟨sb, hsb⟩ : ∃ sb, wrap64 (s * b) = sb := ⟨_, rfl⟩
        rw [hsb]
        clear hsb
        go_wp2_with fail
        generalize hV : World.setCell _ _ _ = V
        obtain ⟨t1, t2⟩ := put5V H3.out.2.1 hV
        have q := row_cells t2
        have HF := Lib.hid ((((Only.of_below (S := []) HB.out.2.2.1).then_ H3.out.2.2 (fun x hx => .inr (by simp at hx; omega))).then_ t1 (fun x hx => .inr (by simp at hx; omega))).below)
        clear hV t1 t2 cR fR cg
        simp [bodyPost, results, Tryz.results73, go_sem, q]
        exact ⟨HF.out, by simp [scal]⟩
    · obtain ⟨hs2, hf⟩ := e2 rfl
      have HF0 := Lib.hid hs2
      clear hs2
      have XR := keep_row ho HB.out.2.2.2 (by simpa using hwO)
      have cR := row_cells XR
      have fR := rowf XR
      have cX := row_cells hWO
      have HX := Lib.hid (And.intro ho hWO)
      have HXR := Lib.hid XR
      unfold box at cX cR fR
      clear XR ho hWO e0 e1 e2
      go_wp2_with fail
      generalize hV : World.setCell _ _ _ = V
      obtain ⟨t1, t2⟩ := put5V HXR.out hV
      have q := row_cells t2
      have HF := Lib.hid ((((Only.of_below (S := []) HB.out.2.2.1).then_ HX.out.1 (fun x hx => .inr (by simp at hx; omega))).then_ t1 (fun x hx => .inr (by simp at hx; omega))).below)
      clear hV t1 t2 cR fR cX cg
      simp [bodyPost, results, Tryz.results73, go_sem, q]
      exact ⟨HF.out, by rw [← HF0.out]; rfl⟩
end Go.Proofs.YtcpbdmgkeljkgaaGreatDoor
