/- The law ValueCompares over its contracts: for every two values Compare is the document's, and what was lent is as it was. -/
import Derived.Test.YtlmlehjfockkpaaDoorRefCmp
import Derived.Test.YtlmlehjfockkpaaDoorKept
import Derived.Test.YtlmlehjfockkpaaDoorLent
namespace Go.Proofs.YtlmlehjfockkpaaDoor
open Go.RowKit
set_option maxRecDepth 100000

theorem Rel1.only {w wr w' : World} {a b : T} {S : List Nat} (h : Rel1 w wr a b) (ho : Only S wr w') (hS : ∀ k ∈ S, w.heap.size + 2 ≤ k) : Rel1 w w' a b :=
  ⟨((Only.of_below (S := []) h.1).then_ ho (fun i hi => .inr (by have := hS i hi; omega))).below, keep_row ho h.2.1 (fun hc => by have := hS _ hc; omega), keep_row ho h.2.2 (fun hc => by have := hS _ hc; omega)⟩
/-- What was there before a call lies apart from what the call has made. -/
theorem In.apart {w w' : World} {t x : T} {B : Nat} (h : t.In w) (hm : x.Marked w' B) (hB : w.heap.size ≤ B) : ∀ p ∈ t.places, p.1.block ∉ blocksOf x.mrows := fun p hp hc => by
  have h1 := cell_lt (h p hp)
  have h2 := (owns_lt hm.owns _ hc).1
  omega
theorem T.Marked.only {w w' : World} {B : Nat} {t : T} {S : List Nat} (h : t.Marked w B) (ho : Only S w w') (hS : ∀ b ∈ blocksOf t.mrows, b ∉ S) : t.Marked w' B := h.keep ho hS (Nat.le_refl _)
theorem T.Marked.then_ {w w' : World} {B : Nat} {t : T} (h : t.Marked w B) (hb : Below w.heap.size w w') : t.Marked w' B := h.below hb

set_option maxHeartbeats 1000000 in
theorem compares_law (a b : T) (w : World) (oa : a.ok) (ob : b.ok) (ha : a.In w) (hb : b.In w) (hT : Tabs w) :
    Calls Tryd.prog 4 #[a.arg, b.arg] w fun e w' => e = .returned (.bool true) ∧ Below w.heap.size w w' := by
  have HR := Lib.hid (show Rel1 w ((w.alloc (.cells a.cells.toArray 25)).alloc (.cells b.cells.toArray 25)) a b from ⟨below2 _ _ _, heap_alloc2_old _ _ _, heap_alloc2_new _ _ _⟩)
  have L1 := Lib.hid (lent_any a oa)
  have L2 := Lib.hid (lent_any b ob)
  have KA := Lib.hid (fun x : T => kept_any x a)
  have KB := Lib.hid (fun x : T => kept_any x b)
  have RC := Lib.hid (refCompare_any a b · oa ob)
  have HA := Lib.hid ha
  have HB := Lib.hid hb
  have HT := Lib.hid hT
  have OA := Lib.hid oa
  have OB := Lib.hid ob
  clear oa ob ha hb hT
  obtain ⟨ka, na, sa, laa, lca, la, daa, dca, da⟩ := a
  obtain ⟨kb, nb, sb, lab, lcb, lb, dab, dcb, db⟩ := b
  show Calls _ _ #[.agg #[.int .i64 ka, .int .i64 na, .string sa, .slice laa la.length lca, .slice daa da.length dca], .agg #[.int .i64 kb, .int .i64 nb, .string sb, .slice lab lb.length lcb, .slice dab db.length dcb]] _ _
  go_enter Tryd.func4, Tryd.ntmps4
  go_wp2_with fail
  refine (awake_any _ (HT.out.then_ HR.out.1)).mono ?_
  rintro e w1 ⟨rfl, b1⟩
  replace HR := Lib.hid (HR.out.then_ b1)
  have fa : ∀ o, w1.cell? ⟨w.heap.size, o, none⟩ = (#[.int .i64 ka, .int .i64 na, .string sa, .slice laa la.length lca, .slice daa da.length dca] : Array Value)[o]? := row_cells HR.out.2.1
  have z1 : w.heap.size + 2 ≤ w1.heap.size := by have := b1.size; simpa using this
  clear b1
  go_wp2_with fail
  refine (L1.out _ (HA.out.then_ HR.out.1)).mono ?_
  rintro e w2 ⟨x, rfl, vx, mx, b2⟩
  replace HR := Lib.hid (HR.out.then_ b2)
  have z2 := b2.size
  have sx := fun b hb => owns_lt mx.owns b hb
  obtain ⟨kx, nx, tx, lax, lcx, lx, dax, dcx, dx⟩ := x
  dsimp only [T.arg, T.cells]
  have fb : ∀ X o, (w2.alloc X).cell? ⟨w.heap.size + 1, o, none⟩ = (#[.int .i64 kb, .int .i64 nb, .string sb, .slice lab lb.length lcb, .slice dab db.length dcb] : Array Value)[o]? := fun X => row_cells (HR.out.then_ (below1 _ X)).2.2
  clear b2 fa
  go_wp2_with fail
  refine (L2.out _ (HB.out.then_ (HR.out.then_ (below1 _ _)).1)).mono ?_
  rintro e w3 ⟨y, rfl, vy, my, b3⟩
  have bx : w3.heap[w2.heap.size]? = some (.cells #[.int .i64 kx, .int .i64 nx, .string tx, .slice lax lx.length lcx, .slice dax dx.length dcx] 25 (0, 0)) := row_then (heap_alloc_new w2 _) b3
  replace HR := Lib.hid ((HR.out.then_ (below1 w2 (.cells #[.int .i64 kx, .int .i64 nx, .string tx, .slice lax lx.length lcx, .slice dax dx.length dcx] 25))).then_ b3)
  have z3 := b3.size
  simp only [World.size_alloc] at z3
  replace mx := (mx.then_ (below1 w2 (.cells #[.int .i64 kx, .int .i64 nx, .string tx, .slice lax lx.length lcx, .slice dax dx.length dcx] 25))).then_ b3
  have sy := fun b hb => owns_lt my.owns b hb
  simp only [World.size_alloc] at sy
  obtain ⟨ky, ny, ty, lay, lcy, ly, day, dcy, dy⟩ := y
  dsimp only [T.arg, T.cells]
  clear b3 fb
  have fx : ∀ Y o, (w3.alloc Y).cell? ⟨w2.heap.size, o, none⟩ = (#[.int .i64 kx, .int .i64 nx, .string tx, .slice lax lx.length lcx, .slice dax dx.length dcx] : Array Value)[o]? := fun Y => row_cells (row_then bx (below1 _ Y))
  go_wp2_with fail
  refine (compare_any (.mk kx nx tx lax lcx lx dax dcx dx) (.mk ky ny ty lay lcy ly day dcy dy) _ mx.ok my.ok (mx.then_ (below1 _ _)).in_ (my.then_ (below1 _ _)).in_).mono ?_
  rintro e w4 ⟨rfl, b4⟩
  have by_ : w4.heap[w3.heap.size]? = some (.cells #[.int .i64 ky, .int .i64 ny, .string ty, .slice lay ly.length lcy, .slice day dy.length dcy] 25 (0, 0)) := row_then (heap_alloc_new w3 _) b4
  replace bx : w4.heap[w2.heap.size]? = some (.cells #[.int .i64 kx, .int .i64 nx, .string tx, .slice lax lx.length lcx, .slice dax dx.length dcx] 25 (0, 0)) := row_then (row_then bx (below1 _ _)) b4
  replace HR := Lib.hid ((HR.out.then_ (below1 w3 (.cells #[.int .i64 ky, .int .i64 ny, .string ty, .slice lay ly.length lcy, .slice day dy.length dcy] 25))).then_ b4)
  have z4 := b4.size
  simp only [World.size_alloc] at z4
  replace mx := (mx.then_ (below1 w3 (.cells #[.int .i64 ky, .int .i64 ny, .string ty, .slice lay ly.length lcy, .slice day dy.length dcy] 25))).then_ b4
  replace my := (my.then_ (below1 w3 (.cells #[.int .i64 ky, .int .i64 ny, .string ty, .slice lay ly.length lcy, .slice day dy.length dcy] 25))).then_ b4
  clear b4 fx
  have fx : ∀ o, w4.cell? ⟨w2.heap.size, o, none⟩ = (#[.int .i64 kx, .int .i64 nx, .string tx, .slice lax lx.length lcx, .slice dax dx.length dcx] : Array Value)[o]? := row_cells bx
  have fa : ∀ o, w4.cell? ⟨w.heap.size, o, none⟩ = (#[.int .i64 ka, .int .i64 na, .string sa, .slice laa la.length lca, .slice daa da.length dca] : Array Value)[o]? := row_cells HR.out.2.1
  go_wp2_with fail
  refine (KA.out (.mk kx nx tx lax lcx lx dax dcx dx) _ w4 mx OA.out (HA.out.then_ HR.out.1) (In.apart HA.out mx (by omega)) vx).mono ?_
  rintro e w5 ⟨rfl, o5⟩
  have z5 := o5.size
  replace by_ := keep_row o5 by_ (fun hc => by have := (sx _ hc).2; omega)
  replace HR := Lib.hid (HR.out.only o5 (fun k hk => by have := (sx _ hk).1; omega))
  replace my := my.only o5 (fun b hb hc => by have := (sx _ hc).2; have := (sy _ hb).1; omega)
  clear fx fa bx mx o5
  have fy : ∀ o, w5.cell? ⟨w3.heap.size, o, none⟩ = (#[.int .i64 ky, .int .i64 ny, .string ty, .slice lay ly.length lcy, .slice day dy.length dcy] : Array Value)[o]? := row_cells by_
  have fb : ∀ o, w5.cell? ⟨w.heap.size + 1, o, none⟩ = (#[.int .i64 kb, .int .i64 nb, .string sb, .slice lab lb.length lcb, .slice dab db.length dcb] : Array Value)[o]? := row_cells HR.out.2.2
  go_wp2_with fail
  refine (KB.out (.mk ky ny ty lay lcy ly day dcy dy) _ w5 my OB.out (HB.out.then_ HR.out.1) (In.apart HB.out my (by simp only [World.size_alloc]; omega)) vy).mono ?_
  rintro e w6 ⟨rfl, o6⟩
  replace HR := Lib.hid (HR.out.only o6 (fun k hk => by have := (sy _ hk).1; omega))
  clear fy fb by_ my o6
  have fa : ∀ o, w6.cell? ⟨w.heap.size, o, none⟩ = (#[.int .i64 ka, .int .i64 na, .string sa, .slice laa la.length lca, .slice daa da.length dca] : Array Value)[o]? := row_cells HR.out.2.1
  have fb : ∀ o, w6.cell? ⟨w.heap.size + 1, o, none⟩ = (#[.int .i64 kb, .int .i64 nb, .string sb, .slice lab lb.length lcb, .slice dab db.length dcb] : Array Value)[o]? := row_cells HR.out.2.2
  go_wp2_with fail
  refine (RC.out w6 (HA.out.then_ HR.out.1) (HB.out.then_ HR.out.1)).mono ?_
  rintro e w7 ⟨rfl, b7⟩
  replace HR := Lib.hid (HR.out.then_ b7)
  clear fa fb b7
  go_wp2_with fail
  go_ret
  exact ⟨ret_bool (by simp), HR.out.1⟩
end Go.Proofs.YtlmlehjfockkpaaDoor
