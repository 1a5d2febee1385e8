/- An argument that is four bytes. No statement is proved here. -/
import Derived.Test.YtlpnhfceblbllaaDoorYB
import Derived.Laws.IdiomArrays
namespace Go.Proofs.YtlpnhfceblbllaaDoor
open Go.RowKit Go.ChangeShapes Go.WideShapes Go.ChangeAt Go.Shelf Go.Lib
set_option maxRecDepth 100000

theorem cells_arr4 : Tryd.prog.cellsOf 50 = 4 := by kernel_rfl
theorem okWide_arr4 {w : World} {r : Reach} {base : Nat} {v : Value} (h : Value.okWide Tryd.prog w r base 50 v) : ∃ cs, v = .agg cs ∧ cs.size = 4 := by
  simp only [Value.okWide, Tryd.underlying50] at h
  obtain ⟨cs, h1, h2, _⟩ := h
  exact ⟨cs, h1, by rw [h2, cells_arr4]⟩
theorem open_arr4 {H : Type} {enc : TypeId × Value → H} {W : World} {r : Reach} {base : Nat} {v : Value} {d : DataW H} {p : List MemPlace} (hv : Value.okWide Tryd.prog W r base 50 v) (h : DataW.Trod enc Tryd.prog W 0 (fun _ => true) true 50 v d p) :
    ∃ y0 y1 y2 y3 : Int, v = .agg #[.int .u8 y0, .int .u8 y1, .int .u8 y2, .int .u8 y3] ∧ (0 ≤ y0 ∧ y0 ≤ 255) ∧ (0 ≤ y1 ∧ y1 ≤ 255) ∧ (0 ≤ y2 ∧ y2 ≤ 255) ∧ (0 ≤ y3 ∧ y3 ≤ 255) := by
  obtain ⟨cs, rfl, hs⟩ := okWide_arr4 hv
  obtain ⟨fuel, hf⟩ := h
  obtain ⟨c0, c1, c2, c3, e⟩ : ∃ c0 c1 c2 c3, cs = #[c0, c1, c2, c3] := by
    obtain ⟨l⟩ := cs
    match l, hs with
    | [a, b, c, d], _ => exact ⟨a, b, c, d, rfl⟩
  subst e
  have hf2 : DataW.trod enc Tryd.prog W 0 (fun _ => true) true fuel 50 [c0, c1, c2, c3] = some (d, p) := hf
  obtain ⟨z0, z1, z2, z3, m, -, h0, h1, h2, h3⟩ := trod_array4 Tryd.underlying50 cells_byte hf2
  have one : ∀ (c : Value) (z : DataW H × List MemPlace), DataW.trod enc Tryd.prog W 0 (fun _ => true) true m 5 [c] = some z → ∃ y : Int, c = .int .u8 y ∧ 0 ≤ y ∧ y ≤ 255 := fun c z hz => by
    obtain ⟨y, e, -, wx⟩ := DataW.trod_int Tryd.underlying5 hz
    refine ⟨y, by injection e, ?_⟩
    simp [Lit.wf, IntKind.min, IntKind.max, IntKind.signed, IntKind.bits] at wx
    omega
  obtain ⟨y0, rfl, b0⟩ := one _ _ h0
  obtain ⟨y1, rfl, b1⟩ := one _ _ h1
  obtain ⟨y2, rfl, b2⟩ := one _ _ h2
  obtain ⟨y3, rfl, b3⟩ := one _ _ h3
  exact ⟨y0, y1, y2, y3, rfl, b0, b1, b2, b3⟩
theorem back_arr4 {H : Type} {enc : TypeId × Value → H} {W W' : World} {v : Value} {d : DataW H} {p : List MemPlace} (h : DataW.Trod enc Tryd.prog W 0 (fun _ => true) true 50 v d p) (hb : Below W.heap.size W W') (hlt : ∀ x ∈ p, x.block < W.heap.size) :
    DataW.Trod enc Tryd.prog W' 0 (fun b => decide (b < W.heap.size)) true 50 v d p :=
  Below.trod laid_out (by kernel_rfl) (of_decide_eq_true (by kernel_rfl)) h hb hlt
end Go.Proofs.YtlpnhfceblbllaaDoor
