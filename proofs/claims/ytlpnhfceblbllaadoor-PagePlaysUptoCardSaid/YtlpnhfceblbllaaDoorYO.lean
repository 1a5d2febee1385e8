/- Arguments that are rows of bools, and rows of a disk's steps: opened and read again. No statement is proved here. -/
import Derived.Test.YtlpnhfceblbllaaDoorYU
import Derived.Test.YtlpnhfceblbllaaDoorGOps
namespace Go.Proofs.YtlpnhfceblbllaaDoor
open Go.RowKit Go.ChangeShapes Go.WideShapes Go.ChangeAt Go.Shelf Go.Lib
set_option maxRecDepth 100000

theorem cells_bool : Tryd.prog.cellsOf 4 = 1 := by kernel_rfl
theorem bytes_bool : Tryd.prog.bytesOf 4 = 1 := by kernel_rfl
theorem cells_op : Tryd.prog.cellsOf 43 = 6 := by kernel_rfl
theorem bytes_op : Tryd.prog.bytesOf 43 = 80 := by kernel_rfl
theorem cells_bytes : Tryd.prog.cellsOf 22 = 1 := by kernel_rfl
theorem cells_bools : Tryd.prog.cellsOf 41 = 1 := by kernel_rfl
section
variable {H : Type} {enc : TypeId × Value → H} {W : World}
theorem open_boolsL {cs : List Value} {y : DataW H × List MemPlace} {held : Bool} (n : Nat) (h3 : DataW.trod enc Tryd.prog W 0 (fun _ => true) held n 41 cs = some y) (w3 : reached (y.1.weights Tryd.prog 41)) :
    ∃ la lc l, cs = [.slice la (l : List Bool).length lc] ∧ InK W W.heap.size la l ∧ (l.length ≤ lc ∧ lc ≤ 140737488351232) ∧ (la = none → lc = 0) := by
  rcases DataW.trod_slice Tryd.underlying41 h3 with ⟨hc, -⟩ | ⟨a, len, cap, elems, rest, n2, rfl, hc, hx, -, hl, -, hel, hi, hsp, -⟩
  · exact ⟨none, 0, [], hc, fun i x hx => by simp at hx, by simp, by simp⟩
  · have e3 := congrArg Prod.fst (Option.some.inj (Eq.symm (show some (_ : DataW H × List MemPlace) = some y from (congrArg some hx.symm))))
    simp only at e3
    rw [e3] at w3
    simp only [DataW.weights, Tryd.underlying41, reached_cons, reached_append] at w3
    obtain ⟨wc, we, -⟩ := w3
    have hcap : okLen (cap * 1) := by
      have := (hsp rfl).1
      simp only [List.length_map, hel, this, bytes_bool] at wc
      rw [show len + (cap - len) = cap by omega] at wc
      exact wc
    obtain ⟨l, hll, hin, -⟩ := in_row (W := W) (a := a) (n := len) (Q := fun _ : Bool => True) (f := Value.bool) (fun i hil => by
      have e := hi i hil
      have hg : elems[i]? = some (elems[i]'(by omega)) := List.getElem?_eq_getElem (by omega)
      rw [hg, Option.bind_eq_some_iff] at e
      obtain ⟨cs', hcs, ht⟩ := e
      rw [cells_bool] at hcs
      obtain ⟨_, hcl, hat⟩ := World.cells?_some hcs
      obtain ⟨x, e0, -⟩ := DataW.trod_bool Tryd.underlying4 ht
      have h2 := hat 0 (by omega)
      rw [e0] at h2
      exact ⟨x, by simpa [Addr.add] using h2, trivial⟩)
    refine ⟨some a, cap, l, by rw [hc, hll], fun i x hx => ?_, by unfold okLen at hcap; omega, by simp⟩
    obtain ⟨b, o, e, hc2⟩ := hin i x hx
    exact ⟨b, o, e, cell_lt hc2, hc2⟩
theorem open_bools {r : Reach} {base : Nat} {v : Value} {d : DataW H} {p : List MemPlace} (hv : Value.okWide Tryd.prog W r base 41 v) (h : DataW.Trod enc Tryd.prog W 0 (fun _ => true) true 41 v d p) (hw : reached (d.weights Tryd.prog 41)) :
    ∃ la lc l, v = .slice la (l : List Bool).length lc ∧ InK W W.heap.size la l ∧ (l.length ≤ lc ∧ lc ≤ 140737488351232) ∧ (la = none → lc = 0) := by
  obtain ⟨fuel, hf⟩ := h
  obtain ⟨la, lc, l, hc, h1⟩ := open_boolsL fuel hf hw
  obtain ⟨a, n, c, rfl⟩ := okWide_slice Tryd.underlying41 hv
  refine ⟨la, lc, l, ?_, h1⟩
  simpa [Value.cells] using hc
theorem back_bools {W' : World} {v : Value} {d : DataW H} {p : List MemPlace} (h : DataW.Trod enc Tryd.prog W 0 (fun _ => true) true 41 v d p) (hb : Below W.heap.size W W') (hlt : ∀ x ∈ p, x.block < W.heap.size) :
    DataW.Trod enc Tryd.prog W' 0 (fun b => decide (b < W.heap.size)) true 41 v d p :=
  Below.trod laid_out (by kernel_rfl) (of_decide_eq_true (by kernel_rfl)) h hb hlt
theorem reached_each {e : TypeId} {ds : List (DataW H)} (h : reached (DataW.weightsAll Tryd.prog e ds)) : ∀ d ∈ ds, reached (d.weights Tryd.prog e) := by
  induction ds with
  | nil => simp
  | cons d r ih =>
    rw [DataW.weightsAll, reached_append] at h
    intro x hx
    rcases List.mem_cons.1 hx with rfl | hx
    · exact h.1
    · exact ih h.2 x hx
/-- A step, read. -/
theorem open_op {held : Bool} {fuel : Nat} {cs : List Value} {x : DataW H × List MemPlace} (h : DataW.trod enc Tryd.prog W 0 (fun _ => true) held fuel 43 cs = some x) (hw : reached (x.1.weights Tryd.prog 43)) : ∃ o : OpD, cs = o.cells ∧ o.In W := by
  obtain ⟨xs, n, rfl, rfl, hlen, hxl, hf⟩ := DataW.trod_struct Tryd.underlying43 h
  rw [cells_op] at hlen
  match cs, hlen with
  | [c0, c1, c2, c3, c4, c5], _ =>
  match xs, hxl with
  | [y0, y1, y2, y3, y4, y5], _ =>
  have h0 : DataW.trod enc Tryd.prog W 0 (fun _ => true) held n 3 (([c0, c1, c2, c3, c4, c5].drop 0).take (Tryd.prog.cellsOf 3)) = some y0 := hf 0 _ rfl
  have h1 : DataW.trod enc Tryd.prog W 0 (fun _ => true) held n 3 (([c0, c1, c2, c3, c4, c5].drop 1).take (Tryd.prog.cellsOf 3)) = some y1 := hf 1 _ rfl
  have h2 : DataW.trod enc Tryd.prog W 0 (fun _ => true) held n 3 (([c0, c1, c2, c3, c4, c5].drop 2).take (Tryd.prog.cellsOf 3)) = some y2 := hf 2 _ rfl
  have h3 : DataW.trod enc Tryd.prog W 0 (fun _ => true) held n 22 (([c0, c1, c2, c3, c4, c5].drop 3).take (Tryd.prog.cellsOf 22)) = some y3 := hf 3 _ rfl
  have h4 : DataW.trod enc Tryd.prog W 0 (fun _ => true) held n 4 (([c0, c1, c2, c3, c4, c5].drop 4).take (Tryd.prog.cellsOf 4)) = some y4 := hf 4 _ rfl
  have h5 : DataW.trod enc Tryd.prog W 0 (fun _ => true) held n 41 (([c0, c1, c2, c3, c4, c5].drop 5).take (Tryd.prog.cellsOf 41)) = some y5 := hf 5 _ rfl
  rw [cells_int] at h0 h1 h2
  rw [cells_bytes] at h3
  rw [cells_bool] at h4
  rw [cells_bools] at h5
  obtain ⟨m0, e0, -, w0⟩ := DataW.trod_int Tryd.underlying3 h0
  obtain ⟨m1, e1, -, w1⟩ := DataW.trod_int Tryd.underlying3 h1
  obtain ⟨m2, e2, -, w2⟩ := DataW.trod_int Tryd.underlying3 h2
  obtain ⟨m4, e4, -⟩ := DataW.trod_bool Tryd.underlying4 h4
  simp only [DataW.weights, Tryd.underlying43, List.map_cons, List.map_nil, DataW.weightsEach, reached_append] at hw
  obtain ⟨-, -, -, r3, -, r5, -⟩ := hw
  obtain ⟨la, lc, l, e3, i3, b3, k3, z3⟩ := open_bytesL n h3 r3
  obtain ⟨ka, kc, kl, e5, i5, k5, z5⟩ := open_boolsL n h5 r5
  simp at e0 e1 e2 e3 e4 e5
  subst e0 e1 e2 e3 e4 e5
  exact ⟨⟨m0, m1, m2, la, lc, l, m4, ka, kc, kl⟩, rfl, wf_okInt w0, wf_okInt w1, wf_okInt w2, i3, b3, k3, z3, i5, k5⟩
theorem in_ops {a : Addr} {n : Nat} {Q : OpD → Prop} (h : ∀ i, i < n → ∃ o : OpD, (∀ j, j < 6 → W.cell? ((a.add (i * 6)).add j) = o.cells[j]?) ∧ Q o) : ∃ l : List OpD, l.length = n ∧ InO W (some a) l ∧ ∀ o ∈ l, Q o := by
  obtain ⟨l, hl, hq⟩ := pick h
  refine ⟨l, hl, fun i x hx => ?_, fun x hx => ?_⟩
  · have h0 : a.spot = none := by
      obtain ⟨x0, hx0⟩ : ∃ x0, l[0]? = some x0 := ⟨_, List.getElem?_eq_getElem (by have := lt_of_get hx; omega)⟩
      have h1 := (hq 0 x0 hx0).1 0 (by omega)
      exact spot_none (a := a) (by simpa [OpD.cells, Addr.add] using h1)
    obtain ⟨b, o, s⟩ := a
    simp only at h0
    subst h0
    refine ⟨b, o, rfl, fun j c hj => ?_⟩
    have hj6 : j < 6 := by have := lt_of_get hj; simpa [OpD.cells] using this
    have h2 := (hq i x hx).1 j hj6
    rw [add_plain (show (⟨b, o, none⟩ : Addr).spot = none from rfl), add_plain (show (⟨b, o + i * 6, none⟩ : Addr).spot = none from rfl), hj] at h2
    exact h2
  · obtain ⟨i, hi⟩ := List.getElem?_of_mem hx
    exact (hq i x hi).2
theorem open_ops {r : Reach} {base : Nat} {v : Value} {d : DataW H} {p : List MemPlace} (hv : Value.okWide Tryd.prog W r base 35 v) (h : DataW.Trod enc Tryd.prog W 0 (fun _ => true) true 35 v d p) (hw : reached (d.weights Tryd.prog 35)) :
    ∃ la lc l, v = .slice la (l : List OpD).length lc ∧ InO W la l ∧ (∀ o ∈ l, o.In W) ∧ l.length ≤ Rows.uptoBulk d := by
  obtain ⟨fuel, hf⟩ := h
  obtain ⟨a, n, c, rfl⟩ := okWide_slice Tryd.underlying35 hv
  rcases DataW.trod_slice Tryd.underlying35 hf with ⟨hc, hd⟩ | ⟨a, len, cap, elems, rest, n2, rfl, hc, hx, -, hl, -, hel, hi, hsp, -⟩
  · exact ⟨none, 0, [], by simpa [Value.cells] using hc, fun i x hx => by simp at hx, by simp, Nat.zero_le _⟩
  · have e3 := congrArg Prod.fst (Option.some.inj (Eq.symm (show some (_ : DataW H × List MemPlace) = some (d, p) from (congrArg some hx.symm))))
    simp only at e3
    rw [e3] at hw
    simp only [DataW.weights, Tryd.underlying35, reached_cons, reached_append] at hw
    obtain ⟨wc, we, -⟩ := hw
    obtain ⟨l, hll, hin, hall⟩ := in_ops (W := W) (a := a) (n := len) (Q := fun o => o.In W) (fun i hil => by
      have e := hi i hil
      have hg : elems[i]? = some (elems[i]'(by omega)) := List.getElem?_eq_getElem (by omega)
      rw [hg, Option.bind_eq_some_iff] at e
      obtain ⟨cs', hcs, ht⟩ := e
      rw [cells_op] at hcs
      obtain ⟨_, hcl, hat⟩ := World.cells?_some hcs
      obtain ⟨o, rfl, hok⟩ := open_op ht (reached_each we _ (List.mem_map.2 ⟨elems[i]'(by omega), List.getElem_mem _, rfl⟩))
      exact ⟨o, hat, hok⟩)
    refine ⟨some a, cap, l, ?_, hin, hall, ?_⟩
    · simp [Value.cells] at hc
      rw [hll]
      simpa using hc
    · rw [hll, ← hel, e3]
      have := bulk_len (elems.map (·.1))
      simp only [Rows.uptoBulk]
      simp at this
      omega
theorem back_ops {W' : World} {v : Value} {d : DataW H} {p : List MemPlace} (h : DataW.Trod enc Tryd.prog W 0 (fun _ => true) true 35 v d p) (hb : Below W.heap.size W W') (hlt : ∀ x ∈ p, x.block < W.heap.size) :
    DataW.Trod enc Tryd.prog W' 0 (fun b => decide (b < W.heap.size)) true 35 v d p :=
  Below.trod laid_out (by kernel_rfl) (of_decide_eq_true (by kernel_rfl)) h hb hlt
end
end Go.Proofs.YtlpnhfceblbllaaDoor
