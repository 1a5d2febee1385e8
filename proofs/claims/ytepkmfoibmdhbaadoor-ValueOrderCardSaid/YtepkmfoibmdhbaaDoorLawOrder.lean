/- The law ValueOrder over its contracts: for every three values Compare is an order, and 0 just of the same where both may be. -/
import Derived.Test.YtepkmfoibmdhbaaDoorOrder
namespace Go.Proofs.YtepkmfoibmdhbaaDoor
open Go.RowKit

/-- The three boxes of a call. -/
def Rel3 (w wr : World) (a b c : T) : Prop := Below w.heap.size w wr ∧ wr.heap[w.heap.size]? = some (.cells a.cells.toArray 25 (0, 0)) ∧ wr.heap[w.heap.size + 1]? = some (.cells b.cells.toArray 25 (0, 0)) ∧ wr.heap[w.heap.size + 2]? = some (.cells c.cells.toArray 25 (0, 0))
theorem Rel3.then_ {w wr w' : World} {a b c : T} (h : Rel3 w wr a b c) (hb : Below wr.heap.size wr w') : Rel3 w w' a b c := ⟨below_then h.1 hb, row_then h.2.1 hb, row_then h.2.2.1 hb, row_then h.2.2.2 hb⟩
theorem Rel3.start (w : World) (a b c : T) : Rel3 w (((w.alloc (.cells a.cells.toArray 25)).alloc (.cells b.cells.toArray 25)).alloc (.cells c.cells.toArray 25)) a b c :=
  ⟨below3 _ _ _ _, row_then (heap_alloc2_old _ _ _) (below1 _ _), row_then (heap_alloc2_new _ _ _) (below1 _ _), heap_alloc_at _ _ _ (by simp)⟩

def Yields (v : Value) (w : World) (e : Ending) (w' : World) : Prop := e = .returned v ∧ Below w.heap.size w w'
/-- The law's walk, over what its callees answer. -/
theorem order_walk (a b c : T) (w : World) (x y z p q : Int) (sb : Bool)
    (ha : a.In w) (hb : b.In w) (hc : c.In w) (hT : Tabs w)
    (C1 : ∀ w, a.In w → b.In w → Calls Tryd.prog 16 #[a.arg, b.arg] w (Yields (.int .i64 x) w))
    (C2 : ∀ w, b.In w → a.In w → Calls Tryd.prog 16 #[b.arg, a.arg] w (Yields (.int .i64 (-x)) w))
    (C3 : ∀ w, b.In w → c.In w → Calls Tryd.prog 16 #[b.arg, c.arg] w (Yields (.int .i64 y) w))
    (C4 : ∀ w, a.In w → c.In w → Calls Tryd.prog 16 #[a.arg, c.arg] w (Yields (.int .i64 z) w))
    (C5 : ∀ w, a.In w → a.In w → Calls Tryd.prog 16 #[a.arg, a.arg] w (Yields (.int .i64 0) w))
    (R1 : ∀ w, a.In w → Tabs w → Calls Tryd.prog 11 #[a.arg] w (Yields (.int .i64 p) w))
    (R2 : ∀ w, b.In w → Tabs w → Calls Tryd.prog 11 #[b.arg] w (Yields (.int .i64 q) w))
    (S1 : ∀ w, a.In w → b.In w → Calls Tryd.prog 22 #[a.arg, b.arg] w (Yields (.bool sb) w))
    (hx : -1 ≤ x ∧ x ≤ 1) (hy : -1 ≤ y ∧ y ≤ 1) (hz : -1 ≤ z ∧ z ≤ 1) (h3 : T3 x y z) (hs : p = 0 → q = 0 → sb = (x == 0)) :
    Calls Tryd.prog 7 #[a.arg, b.arg, c.arg] w fun e w' => e = .returned (.bool true) ∧ Below w.heap.size w w' := by
  have HC1 := Lib.hid C1
  have HC2 := Lib.hid C2
  have HC3 := Lib.hid C3
  have HC4 := Lib.hid C4
  have HC5 := Lib.hid C5
  have HR1 := Lib.hid R1
  have HR2 := Lib.hid R2
  have HS1 := Lib.hid S1
  have HS := Lib.hid hs
  have H3 := Lib.hid h3
  have HA := Lib.hid ha
  have HB := Lib.hid hb
  have HCC := Lib.hid hc
  have HT := Lib.hid hT
  clear C1 C2 C3 C4 C5 R1 R2 S1 hs h3 ha hb hc hT
  obtain ⟨x0, x1⟩ := hx
  obtain ⟨y0, y1⟩ := hy
  obtain ⟨z0, z1⟩ := hz
  have HR := Lib.hid (Rel3.start w a b c)
  obtain ⟨ka, na, sa, laa, lca, la, daa, dca, da⟩ := a
  obtain ⟨kb, nb, sb', lab, lcb, lb, dab, dcb, db⟩ := b
  obtain ⟨kc, nc, sc, lac, lcc, lc, dac, dcc, dc⟩ := c
  show Calls _ _ #[.agg #[.int .i64 ka, .int .i64 na, .string sa, .slice laa la.length lca, .slice daa da.length dca], .agg #[.int .i64 kb, .int .i64 nb, .string sb', .slice lab lb.length lcb, .slice dab db.length dcb], .agg #[.int .i64 kc, .int .i64 nc, .string sc, .slice lac lc.length lcc, .slice dac dc.length dcc]] _ _
  go_enter Tryd.func7, Tryd.ntmps7
  go_wp2_with fail
  refine (awake_any _ (HT.out.then_ HR.out.1)).mono ?_
  rintro e w1 ⟨rfl, b1⟩
  replace HR := Lib.hid (HR.out.then_ b1)
  have fa : ∀ o, w1.cell? ⟨w.heap.size, o, none⟩ = (#[.int .i64 ka, .int .i64 na, .string sa, .slice laa la.length lca, .slice daa da.length dca] : Array Value)[o]? := row_cells HR.out.2.1
  have fb : ∀ o, w1.cell? ⟨w.heap.size + 1, o, none⟩ = (#[.int .i64 kb, .int .i64 nb, .string sb', .slice lab lb.length lcb, .slice dab db.length dcb] : Array Value)[o]? := row_cells HR.out.2.2.1
  clear b1
  go_wp2_with fail
  refine (HC1.out _ (HA.out.then_ HR.out.1) (HB.out.then_ HR.out.1)).mono ?_
  rintro e w2 ⟨rfl, b2⟩
  replace HR := Lib.hid (HR.out.then_ b2)
  clear fa fb b2
  have fa : ∀ o, w2.cell? ⟨w.heap.size, o, none⟩ = (#[.int .i64 ka, .int .i64 na, .string sa, .slice laa la.length lca, .slice daa da.length dca] : Array Value)[o]? := row_cells HR.out.2.1
  have fb : ∀ o, w2.cell? ⟨w.heap.size + 1, o, none⟩ = (#[.int .i64 kb, .int .i64 nb, .string sb', .slice lab lb.length lcb, .slice dab db.length dcb] : Array Value)[o]? := row_cells HR.out.2.2.1
  go_wp2_with fail
  refine (HC2.out _ (HB.out.then_ HR.out.1) (HA.out.then_ HR.out.1)).mono ?_
  rintro e w3 ⟨rfl, b3⟩
  replace HR := Lib.hid (HR.out.then_ b3)
  clear fa fb b3
  have fc : ∀ o, w3.cell? ⟨w.heap.size + 2, o, none⟩ = (#[.int .i64 kc, .int .i64 nc, .string sc, .slice lac lc.length lcc, .slice dac dc.length dcc] : Array Value)[o]? := row_cells HR.out.2.2.2
  have fb : ∀ o, w3.cell? ⟨w.heap.size + 1, o, none⟩ = (#[.int .i64 kb, .int .i64 nb, .string sb', .slice lab lb.length lcb, .slice dab db.length dcb] : Array Value)[o]? := row_cells HR.out.2.2.1
  go_wp2_with fail
  refine (HC3.out _ (HB.out.then_ HR.out.1) (HCC.out.then_ HR.out.1)).mono ?_
  rintro e w4 ⟨rfl, b4⟩
  replace HR := Lib.hid (HR.out.then_ b4)
  clear fc fb b4
  have fc : ∀ o, w4.cell? ⟨w.heap.size + 2, o, none⟩ = (#[.int .i64 kc, .int .i64 nc, .string sc, .slice lac lc.length lcc, .slice dac dc.length dcc] : Array Value)[o]? := row_cells HR.out.2.2.2
  have fa : ∀ o, w4.cell? ⟨w.heap.size, o, none⟩ = (#[.int .i64 ka, .int .i64 na, .string sa, .slice laa la.length lca, .slice daa da.length dca] : Array Value)[o]? := row_cells HR.out.2.1
  go_wp2_with fail
  refine (HC4.out _ (HA.out.then_ HR.out.1) (HCC.out.then_ HR.out.1)).mono ?_
  rintro e w5 ⟨rfl, b5⟩
  replace HR := Lib.hid (HR.out.then_ b5)
  clear fc fa b5
  have fa : ∀ o, w5.cell? ⟨w.heap.size, o, none⟩ = (#[.int .i64 ka, .int .i64 na, .string sa, .slice laa la.length lca, .slice daa da.length dca] : Array Value)[o]? := row_cells HR.out.2.1
  go_wp2_with fail
  refine (HC5.out _ (HA.out.then_ HR.out.1) (HA.out.then_ HR.out.1)).mono ?_
  rintro e w6 ⟨rfl, b6⟩
  replace HR := Lib.hid (HR.out.then_ b6)
  clear fa b6
  have fa : ∀ o, w6.cell? ⟨w.heap.size, o, none⟩ = (#[.int .i64 ka, .int .i64 na, .string sa, .slice laa la.length lca, .slice daa da.length dca] : Array Value)[o]? := row_cells HR.out.2.1
  have e1 : ((0 : Int) != 0) = false := rfl
  have e2 : ((x : Int) != - (-x)) = false := by simp
  have e3 : ((x : Int) != x) = false := by simp
  go_wp2_with fail
  all_goals first
    | (exfalso; have h3 := H3.out; unfold T3 at h3; have hb := bne_iff_ne.1 ‹(_ != _) = true›; omega)
    | (exfalso; have h3 := H3.out; unfold T3 at h3; omega)
    | skip
  all_goals
    refine (HR1.out _ (HA.out.then_ HR.out.1) (HT.out.then_ HR.out.1)).mono ?_
    rintro e w7 ⟨rfl, b7⟩
    replace HR := Lib.hid (HR.out.then_ b7)
    clear fa b7
    have fb : ∀ o, w7.cell? ⟨w.heap.size + 1, o, none⟩ = (#[.int .i64 kb, .int .i64 nb, .string sb', .slice lab lb.length lcb, .slice dab db.length dcb] : Array Value)[o]? := row_cells HR.out.2.2.1
    go_wp2_with fail
    refine (HR2.out _ (HB.out.then_ HR.out.1) (HT.out.then_ HR.out.1)).mono ?_
    rintro e w8 ⟨rfl, b8⟩
    replace HR := Lib.hid (HR.out.then_ b8)
    clear fb b8
    have fb : ∀ o, w8.cell? ⟨w.heap.size + 1, o, none⟩ = (#[.int .i64 kb, .int .i64 nb, .string sb', .slice lab lb.length lcb, .slice dab db.length dcb] : Array Value)[o]? := row_cells HR.out.2.2.1
    have fa : ∀ o, w8.cell? ⟨w.heap.size, o, none⟩ = (#[.int .i64 ka, .int .i64 na, .string sa, .slice laa la.length lca, .slice daa da.length dca] : Array Value)[o]? := row_cells HR.out.2.1
    by_cases hp : p = 0
    · by_cases hq : q = 0
      · have hsb := HS.out hp hq
        subst hp hq
        have HSB := Lib.hid hsb
        clear hsb
        have e4 : ((0 : Int) != 0) = false := rfl
        go_wp2_with fail
        refine (HS1.out _ (HA.out.then_ HR.out.1) (HB.out.then_ HR.out.1)).mono ?_
        rintro e w9 ⟨rfl, b9⟩
        replace HR := Lib.hid (HR.out.then_ b9)
        clear fa fb b9
        go_wp2_with fail
        go_ret
        refine ⟨ret_bool ?_, HR.out.1⟩
        rw [HSB.out]
        first | (simp; done) | (simp; omega)
      · subst hp
        have e4 : ((q : Int) != 0) = true := by simp [hq]
        clear hq
        go_wp2_with fail
        go_ret
        exact ⟨rfl, HR.out.1⟩
    · have e4 : ((p : Int) != 0) = true := by simp [hp]
      clear hp
      go_wp2_with fail
      go_ret
      exact ⟨rfl, HR.out.1⟩

/-- The law, for three values that lie in memory. -/
theorem order_law (a b c : T) (w : World) (oa : a.ok) (ob : b.ok) (oc : c.ok) (ha : a.In w) (hb : b.In w) (hc : c.In w) (hT : Tabs w) :
    Calls Tryd.prog 7 #[a.arg, b.arg, c.arg] w fun e w' => e = .returned (.bool true) ∧ Below w.heap.size w w' := by
  refine order_walk a b c w (cmpV a.val b.val) (cmpV b.val c.val) (cmpV a.val c.val) (rightOf a.val) (rightOf b.val) (sameV a.val b.val) ha hb hc hT
    (fun w h1 h2 => compare_any a b w oa ob h1 h2) (fun w h1 h2 => ?_) (fun w h1 h2 => compare_any b c w ob oc h1 h2) (fun w h1 h2 => compare_any a c w oa oc h1 h2) (fun w h1 h2 => ?_)
    (fun w h1 h2 => right_any a oa w h1 h2) (fun w h1 h2 => right_any b ob w h1 h2) (fun w h1 h2 => same_any a b w oa ob h1 h2) (cmpV_range _ _) (cmpV_range _ _) (cmpV_range _ _) (cmpV_trans _ _ _) (fun h1 h2 => cmpV_same _ _ h1 h2)
  · rw [← cmpV_anti]; exact compare_any b a w ob oa h1 h2
  · rw [← cmpV_self a.val]; exact compare_any a a w oa oa h1 h2
end Go.Proofs.YtepkmfoibmdhbaaDoor
