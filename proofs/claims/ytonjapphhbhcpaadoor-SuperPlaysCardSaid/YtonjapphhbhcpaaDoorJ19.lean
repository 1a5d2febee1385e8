/- An argument that is four bytes. Bytes as an argument, with the bulk that they are. No statement is proved here. -/
import Derived.Test.YtonjapphhbhcpaaDoorJ18
import Derived.Laws.IdiomArrays
namespace Go.Proofs.YtonjapphhbhcpaaDoor
open Go.RowKit Go.ChangeShapes Go.WideShapes Go.ChangeAt Go.Shelf Go.Lib
set_option maxRecDepth 100000

end Go.Proofs.YtonjapphhbhcpaaDoor
namespace Go.Proofs.YtonjapphhbhcpaaDoor
open Go.RowKit Go.ChangeShapes Go.WideShapes Go.ChangeAt Go.Shelf Go.Lib
set_option maxRecDepth 100000

theorem bulk_one {H : Type} (d : DataW H) : 1 ≤ Rows.uptoBulk d := by
  cases d with
  | lit x => cases x <;> simp [Rows.uptoBulk]
  | _ => simp [Rows.uptoBulk]
theorem bulk_len {H : Type} (l : List (DataW H)) : l.length ≤ Rows.uptoBulkAll l := by
  induction l with
  | nil => simp [Rows.uptoBulkAll]
  | cons d r ih => have := bulk_one d; simp [Rows.uptoBulkAll]; omega
theorem bytes_bulk {H : Type} {enc : TypeId × Value → H} {W : World} {la : Option Addr} {n c : Nat} {d : DataW H} {p : List MemPlace} (h : DataW.Trod enc Tryd.prog W 0 (fun _ => true) true 24 (.slice la n c) d p) (h0 : la = none → n = 0) : n ≤ Rows.uptoBulk d := by
  obtain ⟨fuel, hf⟩ := h
  rcases DataW.trod_slice Tryd.underlying24 hf with ⟨hc, -⟩ | ⟨a, len, cap, elems, rest, n2, rfl, hc, hx, -, hl, -, hel, hi, hsp, -⟩
  · simp [Value.cells] at hc
    omega
  · simp [Value.cells] at hc
    obtain ⟨-, e, -⟩ := hc
    have e3 := congrArg Prod.fst hx
    simp only at e3
    rw [e3]
    have := bulk_len (elems.map (·.1))
    simp only [Rows.uptoBulk]
    simp at this
    omega
end Go.Proofs.YtonjapphhbhcpaaDoor
