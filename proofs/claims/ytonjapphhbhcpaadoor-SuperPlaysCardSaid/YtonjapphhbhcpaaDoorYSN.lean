/- How many steps of layer 14's a row can have. No statement is proved here. -/
import Derived.Test.YtonjapphhbhcpaaDoorJ22
namespace Go.Proofs.YtonjapphhbhcpaaDoor
open Go.RowKit Go.ChangeShapes Go.WideShapes Go.ChangeAt
set_option maxRecDepth 100000

section
variable {H : Type} {enc : TypeId × Value → H} {W : World}
theorem bytes_opU : Tryd.prog.bytesOf 45 = 104 := by kernel_rfl
theorem ops_len {a : Option Addr} {k c : Nat} {d : DataW H} {p : List MemPlace} (h : DataW.Trod enc Tryd.prog W 0 (fun _ => true) true 37 (.slice a k c) d p) (hw : reached (d.weights Tryd.prog 37)) : k ≤ 140737488351232 := by
  obtain ⟨fuel, hf⟩ := h
  rcases DataW.trod_slice Tryd.underlying37 hf with ⟨hc, hd⟩ | ⟨b, len, cap, elems, rest, n2, rfl, hc, hx, -, hl, -, hel, hi, hsp, -⟩
  · simp [Value.cells] at hc
    omega
  · have e3 := congrArg Prod.fst (Option.some.inj (Eq.symm (show some (_ : DataW H × List MemPlace) = some (d, p) from (congrArg some hx.symm))))
    simp only at e3
    rw [e3] at hw
    simp only [DataW.weights, Tryd.underlying37, reached_cons, reached_append] at hw
    obtain ⟨wc, we, -⟩ := hw
    simp [Value.cells] at hc
    have hk : k = len := by omega
    simp only [List.length_map, hel, bytes_opU] at wc
    have wc2 : (len + rest.length) * 104 ≤ 140737488355328 := Nat.le_trans wc (by decide)
    omega
end
end Go.Proofs.YtonjapphhbhcpaaDoor
