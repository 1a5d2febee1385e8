/- An argument that is a list of values, opened and read again. No statement is proved here. -/
import Derived.Test.YtkklnfihjikilaaDoorBase
namespace Go.Proofs.YtkklnfihjikilaaDoor
open Go.RowKit Go.ChangeShapes Go.WideShapes Go.ChangeAt Go.Shelf Go.Lib
set_option maxRecDepth 100000

section
variable {H : Type} {enc : TypeId × Value → H} {W : World}
theorem open_listL {cs : List Value} {y : DataW H × List MemPlace} {held : Bool} (n : Nat) (h3 : DataW.trod enc Tryd.prog W 0 (fun _ => true) held n 28 cs = some y) (w3 : reached (y.1.weights Tryd.prog 28)) :
    ∃ la lc l, cs = [.slice la (l : List T).length lc] ∧ InL W la l ∧ (l.length ≤ lc ∧ lc ≤ 9223372036854775807) ∧ okLen (l.length * 80) ∧ (la = none → lc = 0) ∧ ∀ t ∈ l, t.ok ∧ t.val.room 42 := by
  rcases DataW.trod_slice Tryd.underlying28 h3 with ⟨hc, -⟩ | ⟨a, len, cap, elems, rest, n2, rfl, hc, hx, -, hl, -, hel, hi, hsp, -⟩
  · exact ⟨none, 0, [], hc, by intro p hp; simp [T.placesL] at hp, by simp, by simp [okLen], by simp, by simp⟩
  · have e3 := congrArg Prod.fst (Option.some.inj (Eq.symm (show some (_ : DataW H × List MemPlace) = some y from (congrArg some hx.symm))))
    simp only at e3
    rw [e3] at w3
    simp only [DataW.weights, Tryd.underlying28, reached_cons, reached_append] at w3
    obtain ⟨wc, we, -⟩ := w3
    have hcap : okLen (cap * 80) := by
      have := (hsp rfl).1
      simp only [List.length_map, hel, this, bytes_value] at wc
      rw [show len + (cap - len) = cap by omega] at wc
      exact wc
    obtain ⟨l, hll, hin, hok⟩ := in_list (W := W) (a := a) (n := len) (Q := fun t => t.ok ∧ t.val.room 42) (fun i hil => by
      have e := hi i hil
      have hg : elems[i]? = some (elems[i]'(by omega)) := List.getElem?_eq_getElem (by omega)
      rw [hg, Option.bind_eq_some_iff] at e
      obtain ⟨cs', hcs, ht⟩ := e
      rw [cells_value] at hcs
      obtain ⟨_, hcl, hat⟩ := World.cells?_some hcs
      obtain ⟨t, rfl, hin, hok, hro⟩ := open_value n2 _ _ ht (reached_all we _ (List.mem_map.2 ⟨elems[i]'(by omega), List.getElem_mem _, rfl⟩))
      exact ⟨t, hat, hin, hok, hro⟩)
    exact ⟨some a, cap, l, by rw [hc, hll], hin, by unfold okLen at hcap; omega, by unfold okLen at hcap ⊢; omega, by simp, hok⟩
theorem open_list {r : Reach} {base : Nat} {v : Value} {d : DataW H} {p : List MemPlace} (hv : Value.okWide Tryd.prog W r base 28 v) (h : DataW.Trod enc Tryd.prog W 0 (fun _ => true) true 28 v d p) (hw : reached (d.weights Tryd.prog 28)) :
    ∃ la lc l, v = .slice la (l : List T).length lc ∧ InL W la l ∧ (l.length ≤ lc ∧ lc ≤ 9223372036854775807) ∧ okLen (l.length * 80) ∧ (la = none → lc = 0) ∧ ∀ t ∈ l, t.ok ∧ t.val.room 42 := by
  obtain ⟨fuel, hf⟩ := h
  obtain ⟨la, lc, l, hc, h1⟩ := open_listL fuel hf hw
  obtain ⟨a, n, c, rfl⟩ := okWide_slice Tryd.underlying28 hv
  refine ⟨la, lc, l, ?_, h1⟩
  simpa [Value.cells] using hc
theorem back_list {W' : World} {v : Value} {d : DataW H} {p : List MemPlace} (h : DataW.Trod enc Tryd.prog W 0 (fun _ => true) true 28 v d p) (hb : Below W.heap.size W W') (hlt : ∀ x ∈ p, x.block < W.heap.size) :
    DataW.Trod enc Tryd.prog W' 0 (fun b => decide (b < W.heap.size)) true 28 v d p :=
  Below.trod laid_out (by kernel_rfl) (of_decide_eq_true (by kernel_rfl)) h hb hlt
end
end Go.Proofs.YtkklnfihjikilaaDoor
