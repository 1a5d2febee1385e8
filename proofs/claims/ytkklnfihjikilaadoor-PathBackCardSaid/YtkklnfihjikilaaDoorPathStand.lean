/- The contract of stand: no statement is proved here. -/
import Derived.Test.YtkklnfihjikilaaDoorPathAt
namespace Go.Proofs.YtkklnfihjikilaaDoor
open Go.RowKit
set_option maxRecDepth 100000

theorem namedP_any (f : ByteArray × T) (q : Addr) (s : ByteArray) (w : World) (hq : w.cell? q = some (.string s)) :
    Calls Tryd.prog 61 #[farg f, .pointer (some q)] w fun e w' => e = .returned (.bool (f.1.toList == s.toList)) ∧ Below w.heap.size w w' := by
  obtain ⟨fx, kx, nx, sx, lax, lcx, lx, dax, dcx, dx⟩ := f
  show Calls _ _ #[.agg #[.string fx, .int .i64 kx, .int .i64 nx, .string sx, .slice lax lx.length lcx, .slice dax dx.length dcx], .pointer (some q)] _ _
  have hlt := cell_lt hq
  have hq2 : ∀ o, (w.alloc o).cell? q = some (.string s) := fun o => ((below1 w o).cell hlt).trans hq
  go_enter Tryd.func61, Tryd.ntmps61
  go_wp2_with fail
  go_ret
  exact ⟨rfl, below1 _ _⟩

set_option maxHeartbeats 1000000 in
theorem indexFuncP_any (la : Option Addr) (ca : Nat) (l : List (ByteArray × T)) (q : Addr) (s : ByteArray) (w : World) (hq : w.cell? q = some (.string s)) (ha : InD w la l) (hl : l.length ≤ 1759218604390) :
    Calls Tryd.prog 60 #[.slice la l.length ca, .func (.func 61) #[] #[.pointer (some q)]] w fun e w' => e = .returned (.int .i64 (idxD (l.map fun f => (f.1, f.2.val)) s 0)) ∧ Below w.heap.size w w' := by
  go_enter Tryd.func60, Tryd.ntmps60
  go_wp2_with fail
  go_loopw [5, 8] (fun _ i wr => ∃ k : Nat, k ≤ l.length ∧ i = .int .i64 k ∧ Below w.heap.size w wr ∧ idxD (l.map fun f => (f.1, f.2.val)) s 0 = idxD ((l.map fun f => (f.1, f.2.val)).drop k) s k) (fun _ i _ => l.length - (intOf i).toNat)
  case atStart => exact ⟨0, by omega, rfl, Below.refl _ _, by simp⟩
  case round =>
    obtain ⟨k, hk, rfl, hbel, heq⟩ := hrel
    have HH := Lib.hid heq
    clear heq
    by_cases h1 : k < l.length
    · obtain ⟨b, o, fx, kx, nx, sx, lax, lcx, lx, dax, dcx, dx, rfl, hx, hix, x0, x1, x2, x3, x4, x5⟩ := (ha.then_ hbel).six h1
      have hx2 : (l.map fun f => (f.1, f.2.val))[k]? = some (fx, (T.mk kx nx sx lax lcx lx dax dcx dx).val) := by rw [List.getElem?_map, hx]; rfl
      have HT := Lib.hid (idxD_step (s := s) hx2)
      have hq1 : wr.cell? q = some (.string s) := (hbel.cell (cell_lt hq)).trans hq
      have HN := fun w h => namedP_any (fx, T.mk kx nx sx lax lcx lx dax dcx dx) q s w h
      replace HN := Lib.hid HN
      clear hx hx2 ha
      go_wp2_with (go_at_call 61; refine (HN.out _ hq1).mono ?_; rintro e w1 ⟨rfl, hb1⟩)
      · go_ret
        have ht := ‹(_ == _) = true›
        exact ⟨ret_int (by rw [HH.out, HT.out, if_pos ht]), below_then hbel hb1⟩
      · have ht := ‹(_ == _) = false›
        go_roundw
        case rel => exact ⟨k + 1, by omega, by go_num, below_then hbel hb1, by rw [HH.out, HT.out, if_neg (by simp [ht])]⟩
        case measure => simp [intOf]; omega
    · go_wp2_with fail
      go_ret
      exact ⟨ret_int (by rw [HH.out, idxD_done (by simp; omega)]), hbel⟩


theorem stand_any (t : T) (ok : t.ok) (p : ByteArray) (w : World) (hin : t.In w) : Calls Tryd.prog 42 #[t.arg, .string p] w fun e w' => e = .returned (.int .i64 (standV t.val p)) ∧ Below w.heap.size w w' := by
  obtain ⟨kx, nx, sx, lax, lcx, lx, dax, dcx, dx⟩ := t
  show Calls _ _ #[.agg #[.int .i64 kx, .int .i64 nx, .string sx, .slice lax lx.length lcx, .slice dax dx.length dcx], .string p] _ _
  rw [T.val_mk, standV]
  obtain ⟨-, -, -, -, hs, hl1, hl2, hd1, hd2, okl, okd⟩ := ok.parts
  have hB := placeN_bound p
  by_cases h5 : kx = 5
  · subst h5
    have HI := fun w1 q h1 h2 => indexFuncP_any dax dcx dx q p w1 h1 h2 (by omega)
    replace HI := Lib.hid HI
    rw [if_pos rfl]
    clear okl okd ok
    go_enter Tryd.func42, Tryd.ntmps42
    go_wp2_with (go_at_call 60; refine (HI.out _ _ ?_ ?_).mono ?_; (simp [go_sem]); (exact hin.parts.2.then_ (below2 _ _ _)); rintro e w1 ⟨rfl, hb1⟩)
    go_ret
    exact ⟨rfl, below_then (below2 _ _ _) hb1⟩
  · rw [if_neg h5]
    have h5b : ((kx : Int) == 5) = false := by simp [h5]
    by_cases h6 : kx = 6
    · subst h6
      rw [if_pos rfl, List.length_map]
      have HP := fun w1 => place_any_ p w1
      replace HP := Lib.hid HP
      clear okl okd ok h5
      generalize hn : placeN p = n at HP hB ⊢
      clear hn
      go_enter Tryd.func42, Tryd.ntmps42
      go_wp2_with (go_at_call 62; refine (HP.out _).mono ?_; rintro e w1 ⟨rfl, rfl⟩)
      · go_ret
        exact ⟨rfl, below2 _ _ _⟩
      · go_ret
        exact ⟨rfl, below2 _ _ _⟩
    · have h6b : ((kx : Int) == 6) = false := by simp [h6]
      rw [if_neg h6]
      clear h5 h6 okl okd ok
      go_enter Tryd.func42, Tryd.ntmps42
      go_wp2_with fail
      go_ret
      exact ⟨rfl, below2 _ _ _⟩
theorem tooMany_any (la : Option Addr) (c : Nat) (n : Nat) (w : World) : Calls Tryd.prog 28 #[.slice la n c] w fun e w' => e = .returned (.bool (decide (10 < (n : Int)))) ∧ w' = w := by
  go_enter Tryd.func28, Tryd.ntmps28
  go_wp2_with fail
  go_ret
  exact ⟨rfl, rfl⟩
end Go.Proofs.YtkklnfihjikilaaDoor
