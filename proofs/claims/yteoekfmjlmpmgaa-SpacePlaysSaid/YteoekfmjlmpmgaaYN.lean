/- What the proofs over numbers, rows of numbers and rows of a space's steps need of the world that they begin in: the arguments opened and read again. No statement is proved here. -/
import Derived.Test.YteoekfmjlmpmgaaHOps
import Derived.Test.YteoekfmjlmpmgaaRows
import Derived.Test.YteoekfmjlmpmgaaChecked
import Derived.Deep.Slices
import Derived.ProofKit
import Derived.LaidMore
import Derived.Carry
import Derived.ChangeSame
import Derived.PinnedBridge
import Derived.Lay
import Derived.OpenShut
namespace Go.Proofs.Yteoekfmjlmpmgaa
open Go.RowKit Go.ChangeShapes Go.WideShapes Go.ChangeAt Go.Shelf Go.Lib
set_option maxRecDepth 100000

section
variable {H : Type} {enc : TypeId × Value → H} {W : World}
theorem cells_int : Try.prog.cellsOf 3 = 1 := by kernel_rfl
theorem pick {α : Type} {n : Nat} {Q : Nat → α → Prop} (h : ∀ i, i < n → ∃ x, Q i x) : ∃ l : List α, l.length = n ∧ ∀ i x, l[i]? = some x → Q i x := by
  induction n with
  | zero => exact ⟨[], rfl, by simp⟩
  | succ n ih =>
    obtain ⟨l, hl, hq⟩ := ih (fun i hi => h i (by omega))
    obtain ⟨x, hx⟩ := h n (by omega)
    refine ⟨l ++ [x], by simp [hl], fun i y hy => ?_⟩
    by_cases hi : i < l.length
    · rw [List.getElem?_append_left hi] at hy
      exact hq i y hy
    · rw [List.getElem?_append_right (by omega)] at hy
      have h0 : i - l.length = 0 := by
        rcases Nat.eq_zero_or_pos (i - l.length) with h | h
        · exact h
        · rw [List.getElem?_eq_none (by simp; omega)] at hy; cases hy
      rw [h0] at hy
      simp at hy
      subst hy
      have : i = n := by omega
      subst this
      exact hx
def reached (l : List Nat) : Prop := l.all (· ≤ reachBytes) = true
theorem reached_append {a b : List Nat} : reached (a ++ b) ↔ reached a ∧ reached b := by unfold reached; rw [List.all_append, Bool.and_eq_true]
theorem reached_cons {a : Nat} {b : List Nat} : reached (a :: b) ↔ a ≤ reachBytes ∧ reached b := by unfold reached; rw [List.all_cons, Bool.and_eq_true, decide_eq_true_eq]
theorem reach_is : reachBytes = 140737488351232 := rfl
theorem spot_none {a : Addr} {v : Value} (h : W.cell? a = some v) : a.spot = none := by
  unfold World.cell? at h
  split at h
  · split at h
    · cases h
    · rename_i hs; simpa using hs
  · cases h
theorem add_plain {a : Addr} (h : a.spot = none) (n : Nat) : a.add n = ⟨a.block, a.off + n, none⟩ := by
  obtain ⟨b, o, s⟩ := a
  simp only at h
  subst h
  unfold Addr.add
  split
  · rename_i h0; subst h0; rfl
  · rfl
theorem wf_okInt {n : Int} (h : (Lit.int .i64 n).wf = true) : okInt n := by
  simp [Lit.wf, IntKind.min, IntKind.max, IntKind.signed, IntKind.bits] at h
  unfold okInt
  omega
theorem own : ownKnob Try.prog.godebug = none := by kernel_rfl
theorem laid_out : laidOutB Try.prog = true := by kernel_rfl
theorem bytes_int : Try.prog.bytesOf 3 = 8 := by kernel_rfl
theorem in_row {α : Type} {a : Addr} {n : Nat} {Q : α → Prop} {f : α → Value} (h : ∀ i, i < n → ∃ x : α, W.cell? (a.add i) = some (f x) ∧ Q x) : ∃ l : List α, l.length = n ∧ (∀ (i : Nat) (x : α), l[i]? = some x → ∃ b o, some a = some (⟨b, o, none⟩ : Addr) ∧ W.cell? ⟨b, o + i, none⟩ = some (f x)) ∧ ∀ x ∈ l, Q x := by
  obtain ⟨l, hl, hq⟩ := pick h
  refine ⟨l, hl, fun i x hx => ?_, fun x hx => ?_⟩
  · have h0 : a.spot = none := by
      obtain ⟨x0, hx0⟩ : ∃ x0, l[0]? = some x0 := ⟨_, List.getElem?_eq_getElem (by have := lt_of_get hx; omega)⟩
      have h1 := (hq 0 x0 hx0).1
      exact spot_none (a := a) (by simpa [Addr.add] using h1)
    have h2 := (hq i x hx).1
    rw [add_plain h0] at h2
    obtain ⟨b, o, s⟩ := a
    simp only at h0
    subst h0
    exact ⟨b, o, rfl, h2⟩
  · obtain ⟨i, hi⟩ := List.getElem?_of_mem hx
    exact (hq i x hi).2
theorem cells_op : Try.prog.cellsOf 42 = 3 := by kernel_rfl
theorem bytes_op : Try.prog.bytesOf 42 = 24 := by kernel_rfl
theorem open_intsL {cs : List Value} {y : DataW H × List MemPlace} {held : Bool} (n : Nat) (h3 : DataW.trod enc Try.prog W 0 (fun _ => true) held n 22 cs = some y) (w3 : reached (y.1.weights Try.prog 22)) :
    ∃ la lc l, cs = [.slice la (l : List Int).length lc] ∧ InI W la l ∧ (∀ x ∈ l, okInt x) ∧ (l.length ≤ lc ∧ lc ≤ 17592186043904) ∧ (la = none → lc = 0) := by
  rcases DataW.trod_slice Try.underlying22 h3 with ⟨hc, -⟩ | ⟨a, len, cap, elems, rest, n2, rfl, hc, hx, -, hl, -, hel, hi, hsp, -⟩
  · exact ⟨none, 0, [], hc, InI.nil _ _, by simp, by simp, by simp⟩
  · have e3 := congrArg Prod.fst (Option.some.inj (Eq.symm (show some (_ : DataW H × List MemPlace) = some y from (congrArg some hx.symm))))
    simp only at e3
    rw [e3] at w3
    simp only [DataW.weights, Try.underlying22, reached_cons, reached_append] at w3
    obtain ⟨wc, we, -⟩ := w3
    have hcap : okLen (cap * 8) := by
      have := (hsp rfl).1
      simp only [List.length_map, hel, this, bytes_int] at wc
      rw [show len + (cap - len) = cap by omega] at wc
      exact wc
    obtain ⟨l, hll, hin, hok⟩ := in_row (W := W) (a := a) (n := len) (Q := okInt) (f := Value.int .i64) (fun i hil => by
      have e := hi i hil
      have hg : elems[i]? = some (elems[i]'(by omega)) := List.getElem?_eq_getElem (by omega)
      rw [hg, Option.bind_eq_some_iff] at e
      obtain ⟨cs', hcs, ht⟩ := e
      rw [cells_int] at hcs
      obtain ⟨_, hcl, hat⟩ := World.cells?_some hcs
      obtain ⟨x, e0, -, wx⟩ := DataW.trod_int Try.underlying3 ht
      have h2 := hat 0 (by omega)
      rw [e0] at h2
      exact ⟨x, by simpa [Addr.add] using h2, wf_okInt wx⟩)
    refine ⟨some a, cap, l, by rw [hc, hll], hin, hok, by unfold okLen at hcap; omega, by simp⟩
theorem open_ints {r : Reach} {base : Nat} {v : Value} {d : DataW H} {p : List MemPlace} (hv : Value.okWide Try.prog W r base 22 v) (h : DataW.Trod enc Try.prog W 0 (fun _ => true) true 22 v d p) (hw : reached (d.weights Try.prog 22)) :
    ∃ la lc l, v = .slice la (l : List Int).length lc ∧ InI W la l ∧ (∀ x ∈ l, okInt x) ∧ (l.length ≤ lc ∧ lc ≤ 17592186043904) ∧ (la = none → lc = 0) := by
  obtain ⟨fuel, hf⟩ := h
  obtain ⟨la, lc, l, hc, h1⟩ := open_intsL fuel hf hw
  obtain ⟨a, n, c, rfl⟩ := okWide_slice Try.underlying22 hv
  refine ⟨la, lc, l, ?_, h1⟩
  simpa [Value.cells] using hc
theorem back_ints {W' : World} {v : Value} {d : DataW H} {p : List MemPlace} (h : DataW.Trod enc Try.prog W 0 (fun _ => true) true 22 v d p) (hb : Below W.heap.size W W') (hlt : ∀ x ∈ p, x.block < W.heap.size) :
    DataW.Trod enc Try.prog W' 0 (fun b => decide (b < W.heap.size)) true 22 v d p :=
  Below.trod laid_out (by kernel_rfl) (of_decide_eq_true (by kernel_rfl)) h hb hlt
theorem open_int {r : Reach} {base : Nat} {v : Value} {d : DataW H} {p : List MemPlace} (hv : Value.okWide Try.prog W r base 3 v) (h : DataW.Trod enc Try.prog W 0 (fun _ => true) true 3 v d p) : ∃ n : Int, v = .int .i64 n ∧ -9223372036854775808 ≤ n ∧ n ≤ 9223372036854775807 := by
  obtain ⟨n, rfl⟩ := okWide_int Try.underlying3 hv
  obtain ⟨fuel, hf⟩ := h
  obtain ⟨m, e, -, wx⟩ := DataW.trod_int Try.underlying3 hf
  simp [Value.cells] at e
  subst e
  refine ⟨n, rfl, ?_⟩
  simp [Lit.wf, IntKind.min, IntKind.max, IntKind.signed, IntKind.bits] at wx
  omega
theorem back_int {W' : World} {v : Value} {d : DataW H} {p : List MemPlace} (h : DataW.Trod enc Try.prog W 0 (fun _ => true) true 3 v d p) (hb : Below W.heap.size W W') (hlt : ∀ x ∈ p, x.block < W.heap.size) :
    DataW.Trod enc Try.prog W' 0 (fun b => decide (b < W.heap.size)) true 3 v d p :=
  Below.trod laid_out (by kernel_rfl) (of_decide_eq_true (by kernel_rfl)) h hb hlt
theorem reached_each {e : TypeId} {ds : List (DataW H)} (h : reached (DataW.weightsAll Try.prog e ds)) : ∀ d ∈ ds, reached (d.weights Try.prog e) := by
  induction ds with
  | nil => simp
  | cons d r ih =>
    rw [DataW.weightsAll, reached_append] at h
    intro x hx
    rcases List.mem_cons.1 hx with rfl | hx
    · exact h.1
    · exact ih h.2 x hx
/-- A step, read. -/
theorem open_op {held : Bool} {fuel : Nat} {cs : List Value} {x : DataW H × List MemPlace} (h : DataW.trod enc Try.prog W 0 (fun _ => true) held fuel 42 cs = some x) : ∃ o : Op3, cs = o.cells ∧ o.ok := by
  obtain ⟨xs, n, rfl, rfl, hlen, hxl, hf⟩ := DataW.trod_struct Try.underlying42 h
  rw [cells_op] at hlen
  match cs, hlen with
  | [c0, c1, c2], _ =>
  match xs, hxl with
  | [y0, y1, y2], _ =>
  have h0 : DataW.trod enc Try.prog W 0 (fun _ => true) held n 3 (([c0, c1, c2].drop 0).take (Try.prog.cellsOf 3)) = some y0 := hf 0 _ rfl
  have h1 : DataW.trod enc Try.prog W 0 (fun _ => true) held n 3 (([c0, c1, c2].drop 1).take (Try.prog.cellsOf 3)) = some y1 := hf 1 _ rfl
  have h2 : DataW.trod enc Try.prog W 0 (fun _ => true) held n 3 (([c0, c1, c2].drop 2).take (Try.prog.cellsOf 3)) = some y2 := hf 2 _ rfl
  rw [cells_int] at h0 h1 h2
  obtain ⟨m0, e0, -, w0⟩ := DataW.trod_int Try.underlying3 h0
  obtain ⟨m1, e1, -, w1⟩ := DataW.trod_int Try.underlying3 h1
  obtain ⟨m2, e2, -, w2⟩ := DataW.trod_int Try.underlying3 h2
  simp at e0 e1 e2
  subst e0 e1 e2
  exact ⟨⟨m0, m1, m2⟩, rfl, wf_okInt w0, wf_okInt w1, wf_okInt w2⟩
theorem in_ops {a : Addr} {n : Nat} {Q : Op3 → Prop} (h : ∀ i, i < n → ∃ o : Op3, (∀ j, j < 3 → W.cell? ((a.add (i * 3)).add j) = o.cells[j]?) ∧ Q o) : ∃ l : List Op3, l.length = n ∧ InT W (some a) l ∧ ∀ o ∈ l, Q o := by
  obtain ⟨l, hl, hq⟩ := pick h
  refine ⟨l, hl, fun i x hx => ?_, fun x hx => ?_⟩
  · have h0 : a.spot = none := by
      obtain ⟨x0, hx0⟩ : ∃ x0, l[0]? = some x0 := ⟨_, List.getElem?_eq_getElem (by have := lt_of_get hx; omega)⟩
      have h1 := (hq 0 x0 hx0).1 0 (by omega)
      exact spot_none (a := a) (by simpa [Op3.cells, Addr.add] using h1)
    obtain ⟨b, o, s⟩ := a
    simp only at h0
    subst h0
    refine ⟨b, o, rfl, fun j c hj => ?_⟩
    have hj3 : j < 3 := by have := lt_of_get hj; simpa [Op3.cells] using this
    have h2 := (hq i x hx).1 j hj3
    rw [add_plain (show (⟨b, o, none⟩ : Addr).spot = none from rfl), add_plain (show (⟨b, o + i * 3, none⟩ : Addr).spot = none from rfl), hj] at h2
    exact h2
  · obtain ⟨i, hi⟩ := List.getElem?_of_mem hx
    exact (hq i x hi).2
theorem open_ops {r : Reach} {base : Nat} {v : Value} {d : DataW H} {p : List MemPlace} (hv : Value.okWide Try.prog W r base 23 v) (h : DataW.Trod enc Try.prog W 0 (fun _ => true) true 23 v d p) (hw : reached (d.weights Try.prog 23)) :
    ∃ la lc l, v = .slice la (l : List Op3).length lc ∧ InT W la l ∧ (∀ o ∈ l, o.ok) ∧ l.length ≤ 5864062014638 := by
  obtain ⟨fuel, hf⟩ := h
  obtain ⟨a, n, c, rfl⟩ := okWide_slice Try.underlying23 hv
  rcases DataW.trod_slice Try.underlying23 hf with ⟨hc, hd⟩ | ⟨a, len, cap, elems, rest, n2, rfl, hc, hx, -, hl, -, hel, hi, hsp, -⟩
  · exact ⟨none, 0, [], by simpa [Value.cells] using hc, fun i x hx => by simp at hx, by simp, by simp⟩
  · have e3 := congrArg Prod.fst (Option.some.inj (Eq.symm (show some (_ : DataW H × List MemPlace) = some (d, p) from (congrArg some hx.symm))))
    simp only at e3
    rw [e3] at hw
    simp only [DataW.weights, Try.underlying23, reached_cons, reached_append] at hw
    obtain ⟨wc, we, -⟩ := hw
    obtain ⟨l, hll, hin, hall⟩ := in_ops (W := W) (a := a) (n := len) (Q := Op3.ok) (fun i hil => by
      have e := hi i hil
      have hg : elems[i]? = some (elems[i]'(by omega)) := List.getElem?_eq_getElem (by omega)
      rw [hg, Option.bind_eq_some_iff] at e
      obtain ⟨cs', hcs, ht⟩ := e
      rw [cells_op] at hcs
      obtain ⟨_, hcl, hat⟩ := World.cells?_some hcs
      obtain ⟨o, rfl, hok⟩ := open_op ht
      exact ⟨o, hat, hok⟩)
    refine ⟨some a, cap, l, ?_, hin, hall, ?_⟩
    · simp [Value.cells] at hc
      rw [hll]
      simpa using hc
    · have := (hsp rfl).1
      simp only [List.length_map, hel, this, bytes_op, reach_is] at wc
      rw [hll]
      have h9 : len ≤ len + (cap - len) := Nat.le_add_right _ _
      omega
theorem back_ops {W' : World} {v : Value} {d : DataW H} {p : List MemPlace} (h : DataW.Trod enc Try.prog W 0 (fun _ => true) true 23 v d p) (hb : Below W.heap.size W W') (hlt : ∀ x ∈ p, x.block < W.heap.size) :
    DataW.Trod enc Try.prog W' 0 (fun b => decide (b < W.heap.size)) true 23 v d p :=
  Below.trod laid_out (by kernel_rfl) (of_decide_eq_true (by kernel_rfl)) h hb hlt
end
end Go.Proofs.Yteoekfmjlmpmgaa
