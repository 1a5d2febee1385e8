/- What an expression that was read comes to: its node at the worker, and a step. No statement is proved here. -/
import Derived.Test.YtcpbdmgkeljkgaaGreatDoorEAd
import Derived.Test.YtcpbdmgkeljkgaaGreatDoorMark
import Derived.Test.YtcpbdmgkeljkgaaGreatDoorClone
namespace Go.Proofs.YtcpbdmgkeljkgaaGreatDoor
open Go.RowKit
set_option maxRecDepth 100000

theorem cell_onlyG {w w' : World} {g : Nat} {p : Addr} {v : Value} (h : w.cell? p = some v) (ho : Only [g] w w') (hn : p.block ≠ g) : w'.cell? p = some v := by
  have hlt := World.block_lt_of_cell? w p h
  have := ho.block p.block hlt (by simpa using hn)
  unfold World.cell? at h ⊢
  rw [this]
  exact h
theorem T.In.onlyG {t : T} {w w' : World} {g : Nat} (h : t.In w) (ho : Only [g] w w') (hn : ∀ p ∈ t.places, p.1.block ≠ g) : t.In w' := fun p hp => cell_onlyG (h p hp) ho (hn p hp)
/-- The worker: what is bound (the document alone), how many steps were taken. -/
def wkRow (gb n : Nat) : Obj := .cells #[.slice (some ⟨gb, 0, none⟩) 1 1, .int .i64 n] 56 (0, 0)
structure WkAt (w : World) (g gb : Nat) (d : T) (n : Nat) : Prop where
  row : w.heap[g]? = some (wkRow gb n)
  ne : gb ≠ g
  bound : w.heap[gb]? = some (.cells d.cells.toArray 28 (0, 0))
  doc : d.In w
  out : ∀ p ∈ d.places, p.1.block ≠ g
theorem WkAt.then_ {w w' : World} {g gb n m : Nat} {d : T} (h : WkAt w g gb d n) (ho : Only [g] w w') (hr : w'.heap[g]? = some (wkRow gb m)) : WkAt w' g gb d m :=
  ⟨hr, h.ne, (ho.block gb (Array.getElem?_eq_some_iff.1 h.bound).1 (by simpa using h.ne)).trans h.bound, h.doc.onlyG ho h.out, h.out⟩
/-- What was worked out: a value, or an error and no value. -/
def EvTo (B g gb m : Nat) (R : T → Prop) (err : Int) (w : World) (en : Ending) (w' : World) : Prop :=
  ∃ r : T, en = .returned (.tuple #[r.arg, .int .i64 err]) ∧ R r ∧ r.ok ∧ r.In w' ∧ (∀ p ∈ r.places, p.1.block < B ∨ w.heap.size ≤ p.1.block) ∧ Only [g] w w' ∧ w'.heap[g]? = some (wkRow gb m)
/-- How deep the model looks for a method: the number of this program's types and its own depth. -/
abbrev mD : Nat := 374
/-- The method that a node's work is. -/
def Meth (u : TypeId) (x : Value) (gF : FuncId) : Prop := (∀ w : World, (method mD u x "coffret/expr.work").run Tryz.prog w = .ok (gF, x) w) ∧ ∀ (args : Array Value) (w : World), (callFunc gF args).run Tryz.prog w = .ok (.enter gF args) w
/-- A node as it lies in W: of the document d it comes to a value that R says (or fails with err) in k steps beyond its own. -/
def Ev (W : World) (d : T) (u : TypeId) (x : Value) (k : Nat) (R : T → Prop) (err : Int) : Prop :=
  ∃ gF, Meth u x gF ∧ ∀ (w : World) (g gb n : Nat), Below W.heap.size W w → W.heap.size ≤ g → WkAt w g gb d n → n + k ≤ 20000 → Calls Tryz.prog gF #[x, .pointer (some ⟨g, 0, none⟩)] w (EvTo W.heap.size g gb (n + k) R err w)
theorem wk_put {w : World} {g gb n : Nat} (h : w.heap[g]? = some (wkRow gb n)) (m : Nat) : (w.setCell ⟨g, 1, none⟩ (.int .i64 m)).heap[g]? = some (wkRow gb m) := by
  have := heap_setCell_same w g 1 _ _ (.int .i64 (m : Int)) h
  simpa [wkRow] using this
theorem step_any (w : World) (g gb n : Nat) (h : w.heap[g]? = some (wkRow gb n)) (hn : n < 20000) :
    Calls Tryz.prog 26 #[.pointer (some ⟨g, 0, none⟩)] w fun e w' => e = .returned (.int .i64 0) ∧ w' = w.setCell ⟨g, 1, none⟩ (.int .i64 (n + 1 : Nat)) := by
  have c0 := row_cells h
  have f0 := rowf h
  unfold wkRow at c0 f0
  have hne : ((n : Int) == 20000) = false := by simp; omega
  go_enter Tryz.func26, Tryz.ntmps26
  go_wp2_with fail
  go_ret
  exact ⟨rfl, by simp⟩
set_option maxHeartbeats 2000000 in
theorem eval_any {W : World} {d : T} {u : TypeId} {x : Value} {k : Nat} {R : T → Prop} {err : Int} (H : Ev W d u x k R err) (w : World) (g gb n : Nat) (hb : Below W.heap.size W w) (hg : W.heap.size ≤ g) (hw : WkAt w g gb d n) (hn : n + (k + 1) ≤ 20000) :
    Calls Tryz.prog 18 #[.pointer (some ⟨g, 0, none⟩), .iface u x] w (EvTo W.heap.size g gb (n + (k + 1)) R err w) := by
  obtain ⟨gF, ⟨hm, hc⟩, hE⟩ := H
  have hgs := lt_of_block hw.row
  have o1 : Only [g] w (w.alloc (box 0 0)) := (Only.refl _ w).alloc _
  have k1 := hw.then_ o1 (row_then hw.row (below1 _ _))
  have r1 := heap_alloc_new w (box 0 0)
  generalize hU : w.alloc (box 0 0) = U at o1 k1 r1
  have r2 : (U.setCell ⟨g, 1, none⟩ (.int .i64 (n + 1 : Nat))).heap[w.heap.size]? = some (box 0 0) := by
    rw [Below.heap_setCell _ _ _ _ (by simp; omega)]
    exact r1
  have o2 : Only [g] w (U.setCell ⟨g, 1, none⟩ (.int .i64 (n + 1 : Nat))) := o1.setCell (.inl (by simp)) _
  have k2 := k1.then_ ((Only.refl [g] U).setCell (p := ⟨g, 1, none⟩) (.inl (by simp)) _) (wk_put k1.row (n + 1))
  have b2 : Below W.heap.size W (U.setCell ⟨g, 1, none⟩ (.int .i64 (n + 1 : Nat))) := by
    have b1 : Below W.heap.size W U := by rw [← hU]; exact hb.alloc (by have := hb.size; omega) _
    exact b1.setCell hg _
  have HS := Lib.hid (step_any U g gb n k1.row (by omega))
  have HE := Lib.hid (hE _ g gb (n + 1) b2 hg k2 (by omega))
  have HO := Lib.hid (And.intro o2 r2)
  have hz : (U.setCell ⟨g, 1, none⟩ (.int .i64 (n + 1 : Nat))).heap.size = w.heap.size + 1 := by rw [← hU]; simp [World.setCell]
  have HZ := Lib.hid hz
  have HU := Lib.hid hU
  clear hz
  unfold mD at hm
  clear hE hw hb o1 o2 k1 k2 b2 hU r1 r2
  unfold box at HU
  go_enter Tryz.func18, Tryz.ntmps18
  go_wp2_with fail
  rw [HU.out]
  refine HS.out.mono ?_
  rintro e w1 ⟨rfl, hw1⟩
  rw [← hw1] at HE HO HZ
  clear hw1
  go_wp2_with fail
  refine HE.out.mono ?_
  rintro e w2 ⟨⟨rk, rm, rs, rla, rlc, rl, rda, rdc, rf⟩, rfl, hv, hok, hin, hout, ho, hrow⟩
  have hz : w1.heap.size = w.heap.size + 1 := by have := HZ.out; exact this
  have X := keep_row ho HO.out.2 (by simp; omega)
  have HX := Lib.hid X
  have cX := row_cells X
  have fX := rowf X
  unfold box at cX fX
  have HF := Lib.hid (And.intro hv (And.intro hok (And.intro hin (And.intro hout (And.intro ((HO.out.1).trans ho) hrow)))))
  clear hv hok hin hout ho hrow X
  dsimp only [T.arg, T.cells]
  go_wp2_with fail
  generalize hV : World.setCell _ _ _ = V'
  obtain ⟨t1, t2⟩ := put5V HX.out hV
  have q := row_cells t2
  obtain ⟨hv, hok, hin, hout, ho, hrow⟩ := HF.out
  have hne : ∀ p ∈ (T.mk rk rm rs rla rlc rl rda rdc rf).places, p.1.block ≠ w.heap.size := fun p hp => by rcases hout p hp with h | h <;> omega
  have hres : EvTo W.heap.size g gb (n + (k + 1)) R err w (.returned (.tuple #[T.arg (.mk rk rm rs rla rlc rl rda rdc rf), .int .i64 err])) V' :=
    ⟨_, rfl, hv, hok, hin.onlyG t1 hne, fun p hp => (hout p hp).imp id (fun h => by omega), ho.then_ t1 (fun i hi => .inr (by simp at hi; omega)), by
      rw [t1.block g (lt_of_block hrow) (by simp; omega), hrow, show n + 1 + k = n + (k + 1) by omega]⟩
  have HR := Lib.hid hres
  clear hV t1 t2 cX fX hv hok hin hout ho hrow hres HF
  simp [bodyPost, results, Tryz.results18, go_sem, q]
  exact HR.out
end Go.Proofs.YtcpbdmgkeljkgaaGreatDoor
