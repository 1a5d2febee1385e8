/- The words of all texts in a value: what the program's iterator tells. No statement is proved here. -/
import Derived.Test.YtgcbcmhdlgklgaaWInV
namespace Go.Proofs.Ytgcbcmhdlgklgaa
open Go.RowKit Go.Lib
set_option maxRecDepth 100000

theorem wordsIn_any (t : T) (w : World) : Calls Try.prog 14 #[t.arg] w fun e w' => e = .returned (.func (.func 21) #[] #[.pointer (some ⟨w.heap.size, 0, none⟩)]) ∧ w' = w.alloc (.cells t.cells.toArray 30) := by
  obtain ⟨kx, nx, sx, lax, lcx, lx, dax, dcx, dx⟩ := t
  show Calls _ _ #[.agg #[.int .i64 kx, .int .i64 nx, .string sx, .slice lax lx.length lcx, .slice dax dx.length dcx]] _ _
  go_enter Try.func14, Try.ntmps14
  go_wp2_with fail
  go_ret
  exact ⟨rfl, rfl⟩
set_option maxHeartbeats 2000000 in
theorem wordsIn_tell (t : T) (ok : t.ok) (w0 : World) (hin : t.In w0) (w : World) (hw : Below w0.heap.size w0 w) (vb : Nat) (hvb : w.heap[vb]? = some (.cells t.cells.toArray 30 (0, 0))) :
    SeqT Try.prog (fun k => k = vb ∨ k < w0.heap.size) 21 #[.pointer (some ⟨vb, 0, none⟩)] encW (allW t.val) w := by
  refine SeqT.of ?_
  intro l Th J Jx W T
  have bA := (Below.refl W.heap.size W).alloc (Nat.le_refl _) (.cells #[.func (.yield l) #[] #[]] 54)
  have iA : Itr W.heap.size Th W (W.alloc (.cells #[.func (.yield l) #[] #[]] 54)) := .of_below bA
  obtain ⟨f1, j1, m1⟩ := T.own T.sofar T.start iA
  have hA : InR (fun k => k = vb ∨ k < w0.heap.size) w l W.heap.size Th J W [] (W.alloc (.cells #[.func (.yield l) #[] #[]] 54)) := ⟨f1, j1, heap_alloc_new W _, m1 _ (T.fresh T.start (Nat.le_refl _))⟩
  have H := Lib.hid (tell_any T (Nat.le_refl _) hw (fun k hk => .inr hk) t ok hin [] _ hA (by rw [List.nil_append]; exact List.prefix_refl _))
  have hvl := (Array.getElem?_eq_some_iff.1 hvb).1
  have cv := row_cells ((bA.block vb (by have := T.below.size; omega)).trans ((T.below.block vb hvl).trans hvb))
  have cv0 := row_cells ((T.below.block vb hvl).trans hvb)
  clear f1 j1 m1 hA iA bA T
  show Calls _ _ #[.func (.yield l) #[] #[], .pointer (some ⟨vb, 0, none⟩)] _ _
  obtain ⟨kx, nx, sx, lax, lcx, lx, dax, dcx, dx⟩ := t
  dsimp only [T.cells] at cv cv0
  go_enter Try.func21, Try.ntmps21
  go_wp2_with (go_at_call 22; refine H.out.mono ?_; rintro e w2 (⟨rfl, h2⟩ | ⟨rfl, h2⟩))
  · go_end0
    exact ⟨⟨_, rfl⟩, h2.far.rnd, .inl (by have := h2.j; rwa [List.nil_append] at this)⟩
  · go_end0
    exact ⟨⟨_, rfl⟩, h2.1.rnd, .inr h2.2⟩
end Go.Proofs.Ytgcbcmhdlgklgaa
