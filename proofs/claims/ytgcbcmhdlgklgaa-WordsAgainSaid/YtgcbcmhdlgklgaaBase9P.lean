/- What the proofs of layer 9 need where no table is read: the arguments opened and read again. No statement is proved here. -/
import Derived.Test.YtgcbcmhdlgklgaaOpenB
import Derived.Test.YtgcbcmhdlgklgaaWSplitP
import Derived.Lay
import Derived.OpenShut
import Derived.ChangeMaps5
namespace Go.Proofs.Ytgcbcmhdlgklgaa
open Go.RowKit Go.ChangeShapes Go.WideShapes Go.ChangeAt Go.Shelf Go.Lib
set_option maxRecDepth 100000

theorem own : ownKnob Try.prog.godebug = none := by kernel_rfl
theorem laid_out : laidOutB Try.prog = true := by kernel_rfl
section
variable {H : Type} {enc : TypeId × Value → H} {W : World}
theorem open_argB {r : Reach} {base : Nat} {v : Value} {d : DataW H} {p : List MemPlace} (hv : Value.okWide Try.prog W r base 30 v) (h : DataW.Trod enc Try.prog W 0 (fun _ => true) true 30 v d p) (hw : reached (d.weights Try.prog 30)) :
    ∃ t : T, v = t.arg ∧ t.In W ∧ t.ok ∧ (allW t.val).length ≤ 200 * Rows.uptoBulk d := by
  obtain ⟨cs, rfl, _⟩ := okWide_struct Try.underlying30 hv
  obtain ⟨fuel, hf⟩ := h
  obtain ⟨t, ht, hin, hok, -⟩ := open_value fuel _ _ hf hw
  have ht2 : cs.toList = t.cells := ht
  have hf2 : DataW.trod enc Try.prog W 0 (fun _ => true) true fuel 30 t.cells = some (d, p) := by rw [← ht2]; exact hf
  refine ⟨t, ?_, hin, hok, value_bulk fuel t (d, p) hin hf2⟩
  unfold T.arg
  rw [← ht2]
theorem open_text {r : Reach} {base : Nat} {v : Value} {d : DataW H} {p : List MemPlace} (hv : Value.okWide Try.prog W r base 9 v) (h : DataW.Trod enc Try.prog W 0 (fun _ => true) true 9 v d p) (hw : reached (d.weights Try.prog 9)) :
    ∃ s : ByteArray, v = .string s ∧ p = [] ∧ s.size ≤ 140737488351232 ∧ s.size ≤ Rows.uptoBulk d := by
  obtain ⟨s, rfl, rfl, rfl, -⟩ := Go.ChangeMaps.open_string Try.underlying9 hv h
  have h2 : s.data.toList.length = s.size := Array.length_toList
  rw [DataW.weights, reached_cons] at hw
  refine ⟨s, rfl, rfl, by have := hw.1; rw [reach_is] at this; omega, ?_⟩
  simp only [Rows.uptoBulk]
  omega
theorem back_arg {W' : World} {v : Value} {d : DataW H} {p : List MemPlace} (h : DataW.Trod enc Try.prog W 0 (fun _ => true) true 30 v d p) (hb : Below W.heap.size W W') (hlt : ∀ x ∈ p, x.block < W.heap.size) :
    DataW.Trod enc Try.prog W' 0 (fun b => decide (b < W.heap.size)) true 30 v d p :=
  Below.trod laid_out (by kernel_rfl) (of_decide_eq_true (by kernel_rfl)) h hb hlt
theorem back_text {W' : World} {v : Value} {d : DataW H} {p : List MemPlace} (h : DataW.Trod enc Try.prog W 0 (fun _ => true) true 9 v d p) (hb : Below W.heap.size W W') (hlt : ∀ x ∈ p, x.block < W.heap.size) :
    DataW.Trod enc Try.prog W' 0 (fun b => decide (b < W.heap.size)) true 9 v d p :=
  Below.trod laid_out (by kernel_rfl) (of_decide_eq_true (by kernel_rfl)) h hb hlt
end
/-- The argument that witnesses: all zero. -/
def zeroArg : Value := .agg #[.int .i64 0, .int .i64 0, .string ⟨#[]⟩, .slice none 0 0, .slice none 0 0]
end Go.Proofs.Ytgcbcmhdlgklgaa
