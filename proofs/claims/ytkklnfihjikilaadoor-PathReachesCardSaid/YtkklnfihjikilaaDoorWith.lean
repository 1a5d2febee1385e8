/- The contract of With: no statement is proved here. -/
import Derived.Test.YtkklnfihjikilaaDoorPut
import Derived.Deep.RegionLaw
import Derived.Test.YtkklnfihjikilaaDoorAdd
namespace Go.Proofs.YtkklnfihjikilaaDoor
open Go.RowKit
set_option maxRecDepth 100000

def zeroV : V := .mk 0 0 ⟨#[]⟩ [] []
def zeroT : T := .mk 0 0 ⟨#[]⟩ none 0 [] none 0 []
theorem zero_val : zeroT.val = zeroV := by simp [zeroT, zeroV, T.val_mk]
theorem zero_own (w : World) (B : Nat) : zeroT.Own w B := by
  refine ⟨by simp [zeroT, T.ok, T.okL, T.okD, okInt, okLen, okFar, ByteArray.size], fun r hr => ?_, by simp [zeroT, T.rows, T.rowsL, T.rowsD, blocksOf, Value.ownBlock]⟩
  simp [zeroT, T.rows, T.rowsL, T.rowsD] at hr
  rcases hr with rfl | rfl <;> exact World.ownsRow_nil _ _ _ _
def putD : List (ByteArray × V) → ByteArray → V → List (ByteArray × V)
  | [], s, y => [(s, y)]
  | (f, x) :: r, s, y => if f.toList == s.toList then (f, y) :: r else (f, x) :: putD r s y
def withV : V → ByteArray → V → V
  | .mk k n t l d, s, y => if k = 5 then .mk 5 n t l (putD d s y) else zeroV
theorem idxD_put (d : List (ByteArray × T)) (s : ByteArray) (y : V) : ∀ i : Nat, (idxD (d.map fun f => (f.1, f.2.val)) s i = -1 ∧ putD (d.map fun f => (f.1, f.2.val)) s y = (d.map fun f => (f.1, f.2.val)) ++ [(s, y)]) ∨
    (∃ (d1 d2 : List (ByteArray × T)) (f : ByteArray) (x : T), d = d1 ++ (f, x) :: d2 ∧ idxD (d.map fun f => (f.1, f.2.val)) s i = ((i + d1.length : Nat) : Int) ∧ putD (d.map fun f => (f.1, f.2.val)) s y = (d1.map fun f => (f.1, f.2.val)) ++ (f, y) :: (d2.map fun f => (f.1, f.2.val))) := by
  induction d with
  | nil => intro i; exact .inl ⟨rfl, rfl⟩
  | cons z r ih =>
    obtain ⟨f, x⟩ := z
    intro i
    simp only [List.map_cons, idxD, putD]
    by_cases h : (f.toList == s.toList) = true
    · exact .inr ⟨[], r, f, x, rfl, by simp [h], by simp [h]⟩
    · rw [if_neg h, if_neg h]
      rcases ih (i + 1) with ⟨h1, h2⟩ | ⟨d1, d2, f', x', h1, h2, h3⟩
      · exact .inl ⟨h1, by rw [h2]; rfl⟩
      · exact .inr ⟨(f, x) :: d1, d2, f', x', by rw [h1]; rfl, by rw [h2]; simp; omega, by rw [h3]; rfl⟩

/-- A call of a Go function, as one step of a region that draws. -/
theorem step_enter {P : Program} {ops : Array Oper} {o : Oper} {a : Act} {w : World} {K : Act → World → Prop} {Q : Exit → Act → World → Prop} {E : Prop} (hgd : o.guard = none) (f : FuncId) (args : Array Value)
    (hrun : (execOp a.eval o).run P w = .ok (.enter f args) w) (h : Calls P f args w fun e w' => ∃ v, e = .returned v ∧ K (a.put o.dst v) w') :
    if Region.wanted o (yielded ops a.tmps) = true then Oper.wp P o a w K Q else E := by
  have hw : Region.wanted o (yielded ops a.tmps) = true := by simp [Region.wanted, hgd]
  rw [if_pos hw]
  unfold Oper.wp
  rw [hrun, Oper.upon_enter]
  refine h.mono ?_
  rintro e w' ⟨v, rfl, hk⟩
  exact hk

/-- With yields a value in memory of its own. -/
def WithTo (v : V) (w : World) (e : Ending) (w' : World) : Prop := ∃ t' : T, e = .returned t'.arg ∧ t'.val = v ∧ t'.Own w' w.heap.size ∧ Below w.heap.size w w'
/-- The four boxes of With. -/
structure WithBox (w wr : World) (X : List Value) (g : Nat) (O : List Value) : Prop where
  below : Below w.heap.size w wr
  box2 : wr.heap[w.heap.size + 1]? = some (.cells X.toArray 31 (0, 0))
  box3 : wr.heap[w.heap.size + 2]? = some (.cells #[.int .i64 0, .int .i64 0, .string ⟨#[]⟩, .slice none 0 0, .slice none 0 0] 31 (0, 0))
  box4 : wr.heap[g]? = some (.cells O.toArray 31 (0, 0))
theorem WithBox.only {w wr w' : World} {X O : List Value} {g : Nat} {S : List Nat} (h : WithBox w wr X g O) (ho : Only S wr w') (hS : ∀ b ∈ S, w.heap.size + 3 ≤ b ∧ b ≠ g) : WithBox w w' X g O :=
  ⟨((Only.of_below (S := []) h.below).then_ ho (fun i hi => .inr (by have := hS i hi; omega))).below, keep_row ho h.box2 (fun hc => by have := hS _ hc; omega), keep_row ho h.box3 (fun hc => by have := hS _ hc; omega), keep_row ho h.box4 (fun hc => (hS _ hc).2 rfl)⟩
theorem WithBox.then_ {w wr w' : World} {X O : List Value} {g : Nat} (h : WithBox w wr X g O) (hb : Below wr.heap.size wr w') : WithBox w w' X g O := h.only (Only.of_below (S := []) hb) (by simp)

theorem Only.of_grow {w w' : World} {row : Option Nat} (h : w.grownBy w' row) : Only row.toList w w' := ⟨h.os, h.tape, h.output, h.size, fun k hk hn => h.block k hk (fun e => hn (by rw [← e]; simp))⟩
theorem WithBox.grown {w wr w' : World} {X O : List Value} {g : Nat} {row : Option Nat} (h : WithBox w wr X g O) (hg : wr.grownBy w' row) (hr : ∀ b, row = some b → w.heap.size + 3 ≤ b ∧ b ≠ g) : WithBox w w' X g O :=
  h.only (Only.of_grow hg) (fun b hb => hr b (by simpa using hb))
theorem WithBox.start {w w1 : World} {A : Obj} {X O : List Value} (b : Below (((w.alloc A).alloc (.cells X.toArray 31)).alloc (.cells #[.int .i64 0, .int .i64 0, .string ⟨#[]⟩, .slice none 0 0, .slice none 0 0] 31)).heap.size (((w.alloc A).alloc (.cells X.toArray 31)).alloc (.cells #[.int .i64 0, .int .i64 0, .string ⟨#[]⟩, .slice none 0 0, .slice none 0 0] 31)) w1) :
    WithBox w (w1.alloc (.cells O.toArray 31)) X w1.heap.size O :=
  ⟨below_then (below_then (below3 _ _ _ _) b) (below1 _ _), row_then (row_then (row_then (heap_alloc2_new _ _ _) (below1 _ _)) b) (below1 _ _), row_then (row_then (heap_alloc_at _ _ _ (by simp)) b) (below1 _ _), heap_alloc_new _ _⟩
end Go.Proofs.YtkklnfihjikilaaDoor
