/- The law ValueRights over its contracts: for every value Right and Size are the document's, and what was lent is as it was. -/
import Derived.Test.YtepkmfoibmdhbaaDoorRefWalk
import Derived.Test.YtepkmfoibmdhbaaDoorLawCmp
namespace Go.Proofs.YtepkmfoibmdhbaaDoor
open Go.RowKit

theorem Box1.only {w wr w' : World} {a : T} {S : List Nat} (h : Box1 w wr a) (ho : Only S wr w') (hS : ∀ k ∈ S, w.heap.size + 1 ≤ k) : Box1 w w' a :=
  ⟨((Only.of_below (S := []) h.1).then_ ho (fun i hi => .inr (by have := hS i hi; omega))).below, keep_row ho h.2 (fun hc => by have := hS _ hc; omega)⟩
set_option maxHeartbeats 1000000 in
theorem rights_law (a : T) (w : World) (oa : a.ok) (ha : a.In w) (hT : Tabs w) :
    Calls Tryd.prog 3 #[a.arg] w fun e w' => e = .returned (.bool true) ∧ Below w.heap.size w w' := by
  have HR := Lib.hid (Box1.start w a)
  have L1 := Lib.hid (lent_any a oa)
  have KA := Lib.hid (fun x : T => kept_any x a)
  have RR := Lib.hid (refRight_any a oa)
  have RS := Lib.hid (refSize_any a oa)
  have HA := Lib.hid ha
  have HT := Lib.hid hT
  have OA := Lib.hid oa
  clear oa ha hT
  obtain ⟨ka, na, sa, laa, lca, la, daa, dca, da⟩ := a
  show Calls _ _ #[.agg #[.int .i64 ka, .int .i64 na, .string sa, .slice laa la.length lca, .slice daa da.length dca]] _ _
  go_enter Tryd.func3, Tryd.ntmps3
  go_wp2_with fail
  refine (awake_any _ (HT.out.then_ HR.out.1)).mono ?_
  rintro e w1 ⟨rfl, b1⟩
  replace HR := Lib.hid (HR.out.then_ b1)
  have fa : ∀ o, w1.cell? ⟨w.heap.size, o, none⟩ = (#[.int .i64 ka, .int .i64 na, .string sa, .slice laa la.length lca, .slice daa da.length dca] : Array Value)[o]? := row_cells HR.out.2
  have z1 : w.heap.size + 1 ≤ w1.heap.size := by have := b1.size; simpa using this
  clear b1
  go_wp2_with fail
  refine (L1.out _ (HA.out.then_ HR.out.1)).mono ?_
  rintro e w2 ⟨x, rfl, vx, mx, b2⟩
  replace HR := Lib.hid (HR.out.then_ b2)
  have z2 := b2.size
  have sx := fun b hb => owns_lt mx.owns b hb
  obtain ⟨kx, nx, tx, lax, lcx, lx, dax, dcx, dx⟩ := x
  dsimp only [T.arg, T.cells]
  clear b2 fa
  go_wp2_with fail
  refine (right_any (.mk kx nx tx lax lcx lx dax dcx dx) mx.ok _ (mx.then_ (below1 _ _)).in_ (HT.out.then_ (HR.out.then_ (below1 _ _)).1)).mono ?_
  rintro e w3 ⟨rfl, b3⟩
  have bx : w3.heap[w2.heap.size]? = some (.cells #[.int .i64 kx, .int .i64 nx, .string tx, .slice lax lx.length lcx, .slice dax dx.length dcx] 25 (0, 0)) := row_then (heap_alloc_new w2 _) b3
  replace HR := Lib.hid ((HR.out.then_ (below1 w2 (.cells #[.int .i64 kx, .int .i64 nx, .string tx, .slice lax lx.length lcx, .slice dax dx.length dcx] 25))).then_ b3)
  have z3 := b3.size
  simp only [World.size_alloc] at z3
  replace mx := (mx.then_ (below1 w2 (.cells #[.int .i64 kx, .int .i64 nx, .string tx, .slice lax lx.length lcx, .slice dax dx.length dcx] 25))).then_ b3
  clear b3
  have fx : ∀ o, w3.cell? ⟨w2.heap.size, o, none⟩ = (#[.int .i64 kx, .int .i64 nx, .string tx, .slice lax lx.length lcx, .slice dax dx.length dcx] : Array Value)[o]? := row_cells bx
  go_wp2_with fail
  refine (size_any (.mk kx nx tx lax lcx lx dax dcx dx) mx.ok _ mx.in_).mono ?_
  rintro e w4 ⟨rfl, b4⟩
  replace bx := row_then bx b4
  replace HR := Lib.hid (HR.out.then_ b4)
  have z4 := b4.size
  replace mx := mx.then_ b4
  clear b4 fx
  have fx : ∀ o, w4.cell? ⟨w2.heap.size, o, none⟩ = (#[.int .i64 kx, .int .i64 nx, .string tx, .slice lax lx.length lcx, .slice dax dx.length dcx] : Array Value)[o]? := row_cells bx
  have fa : ∀ o, w4.cell? ⟨w.heap.size, o, none⟩ = (#[.int .i64 ka, .int .i64 na, .string sa, .slice laa la.length lca, .slice daa da.length dca] : Array Value)[o]? := row_cells HR.out.2
  go_wp2_with fail
  refine (KA.out (.mk kx nx tx lax lcx lx dax dcx dx) _ w4 mx OA.out (HA.out.then_ HR.out.1) (In.apart HA.out mx (by omega)) vx).mono ?_
  rintro e w5 ⟨rfl, o5⟩
  replace HR := Lib.hid (HR.out.only o5 (fun k hk => by have := (sx _ hk).1; omega))
  clear fx fa bx mx o5
  have fa : ∀ o, w5.cell? ⟨w.heap.size, o, none⟩ = (#[.int .i64 ka, .int .i64 na, .string sa, .slice laa la.length lca, .slice daa da.length dca] : Array Value)[o]? := row_cells HR.out.2
  go_wp2_with fail
  refine (RR.out w5 (HA.out.then_ HR.out.1) (HT.out.then_ HR.out.1)).mono ?_
  rintro e w6 ⟨rfl, b6⟩
  replace HR := Lib.hid (HR.out.then_ b6)
  clear fa b6
  have fa : ∀ o, w6.cell? ⟨w.heap.size, o, none⟩ = (#[.int .i64 ka, .int .i64 na, .string sa, .slice laa la.length lca, .slice daa da.length dca] : Array Value)[o]? := row_cells HR.out.2
  have VX := Lib.hid vx
  have e1 : ((rightOf (T.mk kx nx tx lax lcx lx dax dcx dx).val : Int) == rightOf (T.mk ka na sa laa lca la daa dca da).val) = true := by rw [vx]; simp
  go_wp2_with fail
  refine (RS.out w6 (HA.out.then_ HR.out.1)).mono ?_
  rintro e w7 ⟨rfl, b7⟩
  replace HR := Lib.hid (HR.out.then_ b7)
  clear fa b7
  go_wp2_with fail
  go_ret
  exact ⟨ret_bool (by simp), HR.out.1⟩
end Go.Proofs.YtepkmfoibmdhbaaDoor
