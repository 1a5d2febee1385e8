/- Arguments that are rows of texts: opened and read again. No statement is proved here. -/
import Derived.Test.YtkklnfihjikilaaDoorBaseL
import Derived.Test.YtkklnfihjikilaaDoorPathIn
namespace Go.Proofs.YtkklnfihjikilaaDoor
open Go.RowKit Go.ChangeShapes Go.WideShapes Go.ChangeAt Go.Shelf Go.Lib
set_option maxRecDepth 100000

theorem bytes_text : Tryd.prog.bytesOf 9 = 16 := by kernel_rfl
section
variable {H : Type} {enc : TypeId × Value → H} {W : World}
theorem in_rowS {α : Type} {a : Addr} {n : Nat} {Q : α → Prop} {f : α → Value} (h : ∀ i, i < n → ∃ x : α, W.cell? (a.add i) = some (f x) ∧ Q x) : ∃ l : List α, l.length = n ∧ (∀ (i : Nat) (x : α), l[i]? = some x → ∃ b o, some a = some (⟨b, o, none⟩ : Addr) ∧ W.cell? ⟨b, o + i, none⟩ = some (f x)) ∧ ∀ x ∈ l, Q x := by
  obtain ⟨l, hl, hq⟩ := pick h
  refine ⟨l, hl, fun i x hx => ?_, fun x hx => ?_⟩
  · have h0 : a.spot = none := by
      obtain ⟨x0, hx0⟩ : ∃ x0, l[0]? = some x0 := ⟨_, List.getElem?_eq_getElem (by have := lt_of_get hx; omega)⟩
      have h1 := (hq 0 x0 hx0).1
      exact spot_none (a := a) (by simpa [Addr.add] using h1)
    have h2 := (hq i x hx).1
    rw [add_plain h0] at h2
    obtain ⟨b, o, s⟩ := a
    simp only at h0
    subst h0
    exact ⟨b, o, rfl, h2⟩
  · obtain ⟨i, hi⟩ := List.getElem?_of_mem hx
    exact (hq i x hi).2
theorem open_textsL {cs : List Value} {y : DataW H × List MemPlace} {held : Bool} (n : Nat) (h3 : DataW.trod enc Tryd.prog W 0 (fun _ => true) held n 23 cs = some y) (w3 : reached (y.1.weights Tryd.prog 23)) :
    ∃ la lc l, cs = [.slice la (l : List ByteArray).length lc] ∧ Parts W la lc l ∧ (la = none → lc = 0) := by
  rcases DataW.trod_slice Tryd.underlying23 h3 with ⟨hc, -⟩ | ⟨a, len, cap, elems, rest, n2, rfl, hc, hx, -, hl, -, hel, hi, hsp, -⟩
  · exact ⟨none, 0, [], hc, ⟨InS.nil _ _, by simp, by simp⟩, by simp⟩
  · have e3 := congrArg Prod.fst (Option.some.inj (Eq.symm (show some (_ : DataW H × List MemPlace) = some y from (congrArg some hx.symm))))
    simp only at e3
    rw [e3] at w3
    simp only [DataW.weights, Tryd.underlying23, reached_cons, reached_append] at w3
    obtain ⟨wc, we, -⟩ := w3
    have hcap : okLen (cap * 16) := by
      have := (hsp rfl).1
      simp only [List.length_map, hel, this, bytes_text] at wc
      rw [show len + (cap - len) = cap by omega] at wc
      exact wc
    obtain ⟨l, hll, hin, hok⟩ := in_rowS (W := W) (a := a) (n := len) (Q := fun x : ByteArray => okLen x.size) (f := Value.string) (fun i hil => by
      have e := hi i hil
      have hg : elems[i]? = some (elems[i]'(by omega)) := List.getElem?_eq_getElem (by omega)
      rw [hg, Option.bind_eq_some_iff] at e
      obtain ⟨cs', hcs, ht⟩ := e
      rw [cells_string] at hcs
      obtain ⟨_, hcl, hat⟩ := World.cells?_some hcs
      obtain ⟨x, e0, es, -⟩ := DataW.trod_string Tryd.underlying9 ht
      have h2 := hat 0 (by omega)
      rw [e0] at h2
      have wx := reached_all we _ (List.mem_map.2 ⟨elems[i]'(by omega), List.getElem_mem _, rfl⟩)
      have e2 : (elems[i]'(by omega)).1 = .lit (.string x.data.toList) := by have := congrArg Prod.fst es; simpa using this
      rw [e2, DataW.weights, reached_cons] at wx
      exact ⟨x, by simpa [Addr.add] using h2, reach_size wx.1⟩)
    refine ⟨some a, cap, l, by rw [hc, hll], ⟨hin, by unfold okLen at hcap; omega, hok⟩, by simp⟩
theorem open_texts {r : Reach} {base : Nat} {v : Value} {d : DataW H} {p : List MemPlace} (hv : Value.okWide Tryd.prog W r base 23 v) (h : DataW.Trod enc Tryd.prog W 0 (fun _ => true) true 23 v d p) (hw : reached (d.weights Tryd.prog 23)) :
    ∃ la lc l, v = .slice la (l : List ByteArray).length lc ∧ Parts W la lc l ∧ (la = none → lc = 0) := by
  obtain ⟨fuel, hf⟩ := h
  obtain ⟨la, lc, l, hc, h1⟩ := open_textsL fuel hf hw
  obtain ⟨a, n, c, rfl⟩ := okWide_slice Tryd.underlying23 hv
  refine ⟨la, lc, l, ?_, h1⟩
  simpa [Value.cells] using hc
theorem back_texts {W' : World} {v : Value} {d : DataW H} {p : List MemPlace} (h : DataW.Trod enc Tryd.prog W 0 (fun _ => true) true 23 v d p) (hb : Below W.heap.size W W') (hlt : ∀ x ∈ p, x.block < W.heap.size) :
    DataW.Trod enc Tryd.prog W' 0 (fun b => decide (b < W.heap.size)) true 23 v d p :=
  Below.trod laid_out (by kernel_rfl) (of_decide_eq_true (by kernel_rfl)) h hb hlt
end
end Go.Proofs.YtkklnfihjikilaaDoor
