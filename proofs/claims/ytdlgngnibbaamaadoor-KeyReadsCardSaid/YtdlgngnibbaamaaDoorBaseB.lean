/- Arguments that are bytes, or bools: opened and read again. No statement is proved here. -/
import Derived.Test.YtdlgngnibbaamaaDoorBaseL
import Derived.Test.YtdlgngnibbaamaaDoorKRow2
namespace Go.Proofs.YtdlgngnibbaamaaDoor
open Go.RowKit Go.ChangeShapes Go.WideShapes Go.ChangeAt Go.Shelf Go.Lib
set_option maxRecDepth 100000

theorem cells_byte : Tryd.prog.cellsOf 5 = 1 := by kernel_rfl
theorem cells_flag : Tryd.prog.cellsOf 4 = 1 := by kernel_rfl
theorem bytes_byte : Tryd.prog.bytesOf 5 = 1 := by kernel_rfl
theorem bytes_flag : Tryd.prog.bytesOf 4 = 1 := by kernel_rfl
section
variable {H : Type} {enc : TypeId × Value → H} {W : World}
theorem in_row {α : Type} {a : Addr} {n : Nat} {Q : α → Prop} {f : α → Value} (h : ∀ i, i < n → ∃ x : α, W.cell? (a.add i) = some (f x) ∧ Q x) : ∃ l : List α, l.length = n ∧ (∀ (i : Nat) (x : α), l[i]? = some x → ∃ b o, some a = some (⟨b, o, none⟩ : Addr) ∧ W.cell? ⟨b, o + i, none⟩ = some (f x)) ∧ ∀ x ∈ l, Q x := by
  obtain ⟨l, hl, hq⟩ := pick h
  refine ⟨l, hl, fun i x hx => ?_, fun x hx => ?_⟩
  · have h0 : a.spot = none := by
      obtain ⟨x0, hx0⟩ : ∃ x0, l[0]? = some x0 := ⟨_, List.getElem?_eq_getElem (by have := lt_of_get hx; omega)⟩
      have h1 := (hq 0 x0 hx0).1
      exact spot_none (a := a) (by simpa [Addr.add] using h1)
    have h2 := (hq i x hx).1
    rw [add_plain h0] at h2
    obtain ⟨b, o, s⟩ := a
    simp only at h0
    subst h0
    exact ⟨b, o, rfl, h2⟩
  · obtain ⟨i, hi⟩ := List.getElem?_of_mem hx
    exact (hq i x hi).2
theorem open_bytesL {cs : List Value} {y : DataW H × List MemPlace} {held : Bool} (n : Nat) (h3 : DataW.trod enc Tryd.prog W 0 (fun _ => true) held n 28 cs = some y) (w3 : reached (y.1.weights Tryd.prog 28)) :
    ∃ la lc l, cs = [.slice la (l : List Int).length lc] ∧ InB W la l ∧ isB l ∧ (l.length ≤ lc ∧ lc ≤ 140737488351232) ∧ (la = none → lc = 0) := by
  rcases DataW.trod_slice Tryd.underlying28 h3 with ⟨hc, -⟩ | ⟨a, len, cap, elems, rest, n2, rfl, hc, hx, -, hl, -, hel, hi, hsp, -⟩
  · exact ⟨none, 0, [], hc, InB.nil _ _, isB.nil, by simp, by simp⟩
  · have e3 := congrArg Prod.fst (Option.some.inj (Eq.symm (show some (_ : DataW H × List MemPlace) = some y from (congrArg some hx.symm))))
    simp only at e3
    rw [e3] at w3
    simp only [DataW.weights, Tryd.underlying28, reached_cons, reached_append] at w3
    obtain ⟨wc, we, -⟩ := w3
    have hcap : okLen (cap * 1) := by
      have := (hsp rfl).1
      simp only [List.length_map, hel, this, bytes_byte] at wc
      rw [show len + (cap - len) = cap by omega] at wc
      exact wc
    obtain ⟨l, hll, hin, hok⟩ := in_row (W := W) (a := a) (n := len) (Q := fun x : Int => 0 ≤ x ∧ x ≤ 255) (f := Value.int .u8) (fun i hil => by
      have e := hi i hil
      have hg : elems[i]? = some (elems[i]'(by omega)) := List.getElem?_eq_getElem (by omega)
      rw [hg, Option.bind_eq_some_iff] at e
      obtain ⟨cs', hcs, ht⟩ := e
      rw [cells_byte] at hcs
      obtain ⟨_, hcl, hat⟩ := World.cells?_some hcs
      obtain ⟨x, e0, -, wx⟩ := DataW.trod_int Tryd.underlying5 ht
      have h2 := hat 0 (by omega)
      rw [e0] at h2
      refine ⟨x, by simpa [Addr.add] using h2, ?_⟩
      simp [Lit.wf, IntKind.min, IntKind.max, IntKind.signed, IntKind.bits] at wx
      omega)
    refine ⟨some a, cap, l, by rw [hc, hll], hin, hok, by unfold okLen at hcap; omega, by simp⟩
theorem open_bytes {r : Reach} {base : Nat} {v : Value} {d : DataW H} {p : List MemPlace} (hv : Value.okWide Tryd.prog W r base 28 v) (h : DataW.Trod enc Tryd.prog W 0 (fun _ => true) true 28 v d p) (hw : reached (d.weights Tryd.prog 28)) :
    ∃ la lc l, v = .slice la (l : List Int).length lc ∧ InB W la l ∧ isB l ∧ (l.length ≤ lc ∧ lc ≤ 140737488351232) ∧ (la = none → lc = 0) := by
  obtain ⟨fuel, hf⟩ := h
  obtain ⟨la, lc, l, hc, h1⟩ := open_bytesL fuel hf hw
  obtain ⟨a, n, c, rfl⟩ := okWide_slice Tryd.underlying28 hv
  refine ⟨la, lc, l, ?_, h1⟩
  simpa [Value.cells] using hc
theorem back_bytes {W' : World} {v : Value} {d : DataW H} {p : List MemPlace} (h : DataW.Trod enc Tryd.prog W 0 (fun _ => true) true 28 v d p) (hb : Below W.heap.size W W') (hlt : ∀ x ∈ p, x.block < W.heap.size) :
    DataW.Trod enc Tryd.prog W' 0 (fun b => decide (b < W.heap.size)) true 28 v d p :=
  Below.trod laid_out (by kernel_rfl) (of_decide_eq_true (by kernel_rfl)) h hb hlt
theorem open_flagsL {cs : List Value} {y : DataW H × List MemPlace} {held : Bool} (n : Nat) (h3 : DataW.trod enc Tryd.prog W 0 (fun _ => true) held n 48 cs = some y) (w3 : reached (y.1.weights Tryd.prog 48)) :
    ∃ la lc l, cs = [.slice la (l : List Bool).length lc] ∧ InF W la l ∧ (l.length ≤ lc ∧ lc ≤ 140737488351232) ∧ (la = none → lc = 0) := by
  rcases DataW.trod_slice Tryd.underlying48 h3 with ⟨hc, -⟩ | ⟨a, len, cap, elems, rest, n2, rfl, hc, hx, -, hl, -, hel, hi, hsp, -⟩
  · exact ⟨none, 0, [], hc, fun i x h => by simp at h, by simp, by simp⟩
  · have e3 := congrArg Prod.fst (Option.some.inj (Eq.symm (show some (_ : DataW H × List MemPlace) = some y from (congrArg some hx.symm))))
    simp only at e3
    rw [e3] at w3
    simp only [DataW.weights, Tryd.underlying48, reached_cons, reached_append] at w3
    obtain ⟨wc, we, -⟩ := w3
    have hcap : okLen (cap * 1) := by
      have := (hsp rfl).1
      simp only [List.length_map, hel, this, bytes_flag] at wc
      rw [show len + (cap - len) = cap by omega] at wc
      exact wc
    obtain ⟨l, hll, hin, hok⟩ := in_row (W := W) (a := a) (n := len) (Q := fun x : Bool => True) (f := Value.bool) (fun i hil => by
      have e := hi i hil
      have hg : elems[i]? = some (elems[i]'(by omega)) := List.getElem?_eq_getElem (by omega)
      rw [hg, Option.bind_eq_some_iff] at e
      obtain ⟨cs', hcs, ht⟩ := e
      rw [cells_flag] at hcs
      obtain ⟨_, hcl, hat⟩ := World.cells?_some hcs
      obtain ⟨x, e0, -⟩ := DataW.trod_bool Tryd.underlying4 ht
      have h2 := hat 0 (by omega)
      rw [e0] at h2
      exact ⟨x, by simpa [Addr.add] using h2, trivial⟩)
    refine ⟨some a, cap, l, by rw [hc, hll], hin, by unfold okLen at hcap; omega, by simp⟩
theorem open_flags {r : Reach} {base : Nat} {v : Value} {d : DataW H} {p : List MemPlace} (hv : Value.okWide Tryd.prog W r base 48 v) (h : DataW.Trod enc Tryd.prog W 0 (fun _ => true) true 48 v d p) (hw : reached (d.weights Tryd.prog 48)) :
    ∃ la lc l, v = .slice la (l : List Bool).length lc ∧ InF W la l ∧ (l.length ≤ lc ∧ lc ≤ 140737488351232) ∧ (la = none → lc = 0) := by
  obtain ⟨fuel, hf⟩ := h
  obtain ⟨la, lc, l, hc, h1⟩ := open_flagsL fuel hf hw
  obtain ⟨a, n, c, rfl⟩ := okWide_slice Tryd.underlying48 hv
  refine ⟨la, lc, l, ?_, h1⟩
  simpa [Value.cells] using hc
theorem back_flags {W' : World} {v : Value} {d : DataW H} {p : List MemPlace} (h : DataW.Trod enc Tryd.prog W 0 (fun _ => true) true 48 v d p) (hb : Below W.heap.size W W') (hlt : ∀ x ∈ p, x.block < W.heap.size) :
    DataW.Trod enc Tryd.prog W' 0 (fun b => decide (b < W.heap.size)) true 48 v d p :=
  Below.trod laid_out (by kernel_rfl) (of_decide_eq_true (by kernel_rfl)) h hb hlt
end
end Go.Proofs.YtdlgngnibbaamaaDoor
