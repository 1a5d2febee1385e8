/- The contracts of the document's own Get and With: no statement is proved here. -/
import Derived.Test.YtkklnfihjikilaaDoorRefClone
import Derived.Test.YtkklnfihjikilaaDoorSame
namespace Go.Proofs.YtkklnfihjikilaaDoor
open Go.RowKit
set_option maxRecDepth 100000

theorem findD_step {l : List (ByteArray × V)} {s : ByteArray} {k : Nat} {x : ByteArray × V} (hx : l[k]? = some x) : findD (l.drop k) s = if x.1.toList == s.toList then some x.2 else findD (l.drop (k + 1)) s := by
  obtain ⟨h1, rfl⟩ := List.getElem?_eq_some_iff.1 hx
  rw [List.drop_eq_getElem_cons h1, findD]
theorem findD_done {l : List (ByteArray × V)} {s : ByteArray} {k : Nat} (h : l.length ≤ k) : findD (l.drop k) s = none := by rw [List.drop_eq_nil_of_le h, findD]
theorem Rel1.start (w : World) (a b : T) : Rel1 w ((w.alloc (.cells a.cells.toArray 31)).alloc (.cells b.cells.toArray 31)) a b :=
  ⟨below2 _ _ _, row_then (heap_alloc_new _ _) (below1 _ _), heap_alloc_at _ _ _ (by simp)⟩

end Go.Proofs.YtkklnfihjikilaaDoor
