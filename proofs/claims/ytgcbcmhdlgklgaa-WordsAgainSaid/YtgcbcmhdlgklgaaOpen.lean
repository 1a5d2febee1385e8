/- What a reading of the arguments gives: the values lie in memory as trees, within the reach. No statement is proved here. -/
import Derived.Test.YtgcbcmhdlgklgaaTree
import Derived.Test.YtgcbcmhdlgklgaaChecked
import Derived.Deep.Slices
import Derived.ProofKit
import Derived.LaidMore
import Derived.Carry
import Derived.ChangeSame
namespace Go.Proofs.Ytgcbcmhdlgklgaa
open Go.RowKit Go.ChangeShapes Go.WideShapes
set_option maxRecDepth 100000

theorem cells_value : Try.prog.cellsOf 30 = 5 := by kernel_rfl
theorem cells_field : Try.prog.cellsOf 52 = 6 := by kernel_rfl
theorem cells_int : Try.prog.cellsOf 3 = 1 := by kernel_rfl
theorem cells_string : Try.prog.cellsOf 9 = 1 := by kernel_rfl
theorem cells_list : Try.prog.cellsOf 27 = 1 := by kernel_rfl
theorem cells_doc : Try.prog.cellsOf 28 = 1 := by kernel_rfl
theorem bytes_value : Try.prog.bytesOf 30 = 80 := by kernel_rfl
theorem bytes_field : Try.prog.bytesOf 52 = 96 := by kernel_rfl

theorem pick {α : Type} {n : Nat} {Q : Nat → α → Prop} (h : ∀ i, i < n → ∃ x, Q i x) : ∃ l : List α, l.length = n ∧ ∀ i x, l[i]? = some x → Q i x := by
  induction n with
  | zero => exact ⟨[], rfl, by simp⟩
  | succ n ih =>
    obtain ⟨l, hl, hq⟩ := ih (fun i hi => h i (by omega))
    obtain ⟨x, hx⟩ := h n (by omega)
    refine ⟨l ++ [x], by simp [hl], fun i y hy => ?_⟩
    by_cases hi : i < l.length
    · rw [List.getElem?_append_left hi] at hy
      exact hq i y hy
    · rw [List.getElem?_append_right (by omega)] at hy
      have h0 : i - l.length = 0 := by
        rcases Nat.eq_zero_or_pos (i - l.length) with h | h
        · exact h
        · rw [List.getElem?_eq_none (by simp; omega)] at hy; cases hy
      rw [h0] at hy
      simp at hy
      subst hy
      have : i = n := by omega
      subst this
      exact hx

def reached (l : List Nat) : Prop := l.all (· ≤ reachBytes) = true
theorem reached_append {a b : List Nat} : reached (a ++ b) ↔ reached a ∧ reached b := by unfold reached; rw [List.all_append, Bool.and_eq_true]
theorem reached_cons {a : Nat} {b : List Nat} : reached (a :: b) ↔ a ≤ reachBytes ∧ reached b := by unfold reached; rw [List.all_cons, Bool.and_eq_true, decide_eq_true_eq]

theorem reach_is : reachBytes = 140737488351232 := rfl
theorem reach_size {s : ByteArray} (h : s.data.toList.length ≤ reachBytes) : okLen s.size := by
  have e : s.data.toList.length = s.size := Array.length_toList
  rw [e, reach_is] at h
  exact h
section
variable {H : Type} {enc : TypeId × Value → H} {W : World} {held : Bool}
theorem reached_all {e : TypeId} {ds : List (DataW H)} (h : reached (DataW.weightsAll Try.prog e ds)) : ∀ d ∈ ds, reached (d.weights Try.prog e) := by
  induction ds with
  | nil => simp
  | cons d r ih =>
    rw [DataW.weightsAll, reached_append] at h
    intro x hx
    rcases List.mem_cons.1 hx with rfl | hx
    · exact h.1
    · exact ih h.2 x hx
theorem spot_none {a : Addr} {v : Value} (h : W.cell? a = some v) : a.spot = none := by
  unfold World.cell? at h
  split at h
  · split at h
    · cases h
    · rename_i hs; simpa using hs
  · cases h
theorem add_plain {a : Addr} (h : a.spot = none) (n : Nat) : a.add n = ⟨a.block, a.off + n, none⟩ := by
  obtain ⟨b, o, s⟩ := a
  simp only at h
  subst h
  unfold Addr.add
  split
  · rename_i h0; subst h0; rfl
  · rfl
theorem at_plain {a : Addr} (h : a.spot = none) (n : Nat) : at_ (some a) n = ⟨a.block, a.off + n, none⟩ := by simp [at_, h]
theorem wf_okInt {n : Int} (h : (Lit.int .i64 n).wf = true) : okInt n := by
  simp [Lit.wf, IntKind.min, IntKind.max, IntKind.signed, IntKind.bits] at h
  unfold okInt
  omega

/-- Elements that read each as a value: a list of values that lie there. -/
theorem in_list {a : Addr} {n : Nat} {Q : T → Prop} (h : ∀ i, i < n → ∃ t : T, (∀ j, j < 5 → W.cell? ((a.add (i * 5)).add j) = t.cells[j]?) ∧ t.In W ∧ Q t) : ∃ l : List T, l.length = n ∧ InL W (some a) l ∧ ∀ t ∈ l, Q t := by
  obtain ⟨l, hl, hq⟩ := pick h
  refine ⟨l, hl, fun p hp => ?_, fun t ht => ?_⟩
  · obtain ⟨i, x, hx, hp⟩ := (T.mem_placesL _ _ _ _).1 hp
    have h0 : a.spot = none := by
      obtain ⟨x0, hx0⟩ : ∃ x0, l[0]? = some x0 := ⟨_, List.getElem?_eq_getElem (by have := (List.getElem?_eq_some_iff.1 hx).1; omega)⟩
      have h1 := (hq 0 x0 hx0).1 0 (by omega)
      obtain ⟨k, n, s, la, lc, l', da, dc, d'⟩ := x0
      exact spot_none (a := a) (by simpa [T.cells, Addr.add] using h1)
    rcases hp with hp | hp
    · obtain ⟨j, c, hc, rfl⟩ := mem_laid.1 hp
      have hj : j < 5 := by
        have := (List.getElem?_eq_some_iff.1 hc).1
        cases x; simpa [T.cells] using this
      have h2 := (hq i x hx).1 j hj
      rw [hc, add_plain h0, add_plain rfl] at h2
      rw [at_plain h0, ← h2]
      simp [Nat.add_assoc]
    · exact (hq i x hx).2.1 p hp
  · obtain ⟨i, hi⟩ := List.getElem?_of_mem ht
    exact (hq i t hi).2.2
theorem in_doc {a : Addr} {n : Nat} {Q : ByteArray × T → Prop} (h : ∀ i, i < n → ∃ f : ByteArray × T, (∀ j, j < 6 → W.cell? ((a.add (i * 6)).add j) = (fcells f)[j]?) ∧ f.2.In W ∧ Q f) : ∃ l : List (ByteArray × T), l.length = n ∧ InD W (some a) l ∧ ∀ f ∈ l, Q f := by
  obtain ⟨l, hl, hq⟩ := pick h
  refine ⟨l, hl, fun p hp => ?_, fun t ht => ?_⟩
  · obtain ⟨i, x, hx, hp⟩ := (T.mem_placesD _ _ _ _).1 hp
    have h0 : a.spot = none := by
      obtain ⟨x0, hx0⟩ : ∃ x0, l[0]? = some x0 := ⟨_, List.getElem?_eq_getElem (by have := (List.getElem?_eq_some_iff.1 hx).1; omega)⟩
      have h1 := (hq 0 x0 hx0).1 0 (by omega)
      exact spot_none (a := a) (by simpa [fcells, Addr.add] using h1)
    rcases hp with hp | hp
    · obtain ⟨j, c, hc, rfl⟩ := mem_laid.1 hp
      have hj : j < 6 := by
        have := (List.getElem?_eq_some_iff.1 hc).1
        obtain ⟨s, x⟩ := x
        cases x; simpa [fcells, T.cells] using this
      have h2 := (hq i x hx).1 j hj
      rw [hc, add_plain h0, add_plain rfl] at h2
      rw [at_plain h0, ← h2]
      simp [Nat.add_assoc]
    · exact (hq i x hx).2.1 p hp
  · obtain ⟨i, hi⟩ := List.getElem?_of_mem ht
    exact (hq i t hi).2.2

/-- A reading of a value: the value lies in memory as a tree, within the reach. -/
theorem open_value (fuel : Nat) : ∀ (cs : List Value) (x : DataW H × List MemPlace), DataW.trod enc Try.prog W 0 (fun _ => true) held fuel 30 cs = some x → reached (x.1.weights Try.prog 30) → ∃ t : T, cs = t.cells ∧ t.In W ∧ t.ok ∧ t.val.room 42 := by
  induction fuel using Nat.strongRecOn with
  | ind fuel ih =>
  intro cs x h hw
  obtain ⟨xs, n, rfl, rfl, hlen, hxl, hf⟩ := DataW.trod_struct Try.underlying30 h
  rw [cells_value] at hlen
  match cs, hlen with
  | [c0, c1, c2, c3, c4], _ =>
  match xs, hxl with
  | [y0, y1, y2, y3, y4], _ =>
  have h0 : DataW.trod enc Try.prog W 0 (fun _ => true) held n 3 (([c0, c1, c2, c3, c4].drop 0).take (Try.prog.cellsOf 3)) = some y0 := hf 0 _ rfl
  have h1 : DataW.trod enc Try.prog W 0 (fun _ => true) held n 3 (([c0, c1, c2, c3, c4].drop 1).take (Try.prog.cellsOf 3)) = some y1 := hf 1 _ rfl
  have h2 : DataW.trod enc Try.prog W 0 (fun _ => true) held n 9 (([c0, c1, c2, c3, c4].drop 2).take (Try.prog.cellsOf 9)) = some y2 := hf 2 _ rfl
  have h3 : DataW.trod enc Try.prog W 0 (fun _ => true) held n 27 (([c0, c1, c2, c3, c4].drop 3).take (Try.prog.cellsOf 27)) = some y3 := hf 3 _ rfl
  have h4 : DataW.trod enc Try.prog W 0 (fun _ => true) held n 28 (([c0, c1, c2, c3, c4].drop 4).take (Try.prog.cellsOf 28)) = some y4 := hf 4 _ rfl
  rw [cells_int] at h0 h1
  rw [cells_string] at h2
  rw [cells_list] at h3
  rw [cells_doc] at h4
  obtain ⟨k, hk, -, wk⟩ := DataW.trod_int Try.underlying3 h0
  obtain ⟨m, hm, -, wm⟩ := DataW.trod_int Try.underlying3 h1
  obtain ⟨s, hs, es, ws⟩ := DataW.trod_string Try.underlying9 h2
  simp at hk hm hs
  subst hk hm hs
  simp only [DataW.weights, Try.underlying30, List.map_cons, List.map_nil, DataW.weightsEach, reached_append] at hw
  obtain ⟨-, -, w2, w3, w4, -⟩ := hw
  have hsl : okLen s.size := by
    have e2 : y2.1 = .lit (.string s.data.toList) := by have := congrArg Prod.fst es; simpa using this
    rw [e2, DataW.weights, reached_cons] at w2
    exact reach_size w2.1
  -- the list
  have hL : ∃ la lc l, c3 = .slice la l.length lc ∧ InL W la l ∧ (l.length ≤ lc ∧ lc ≤ 9223372036854775807) ∧ okLen (l.length * 80) ∧ (la = none → lc = 0) ∧ ∀ t ∈ l, t.ok ∧ t.val.room 42 := by
    rcases DataW.trod_slice Try.underlying27 h3 with ⟨hc, -⟩ | ⟨a, len, cap, elems, rest, n2, rfl, hc, hx, -, hl, -, hel, hi, hsp, -⟩
    · simp at hc
      exact ⟨none, 0, [], hc, by intro p hp; simp [T.placesL] at hp, by simp, by simp [okLen], by simp, by simp⟩
    · simp at hc
      have e3 := congrArg Prod.fst (Option.some.inj (Eq.symm (show some (_ : DataW H × List MemPlace) = some y3 from (congrArg some hx.symm))))
      simp only at e3
      rw [e3] at w3
      simp only [DataW.weights, Try.underlying27, reached_cons, reached_append] at w3
      obtain ⟨wc, we, -⟩ := w3
      have hcap : okLen (cap * 80) := by
        have := (hsp rfl).1
        simp only [List.length_map, hel, this, bytes_value] at wc
        rw [show len + (cap - len) = cap by omega] at wc
        exact wc
      obtain ⟨l, hll, hin, hok⟩ := in_list (W := W) (a := a) (n := len) (Q := fun t => t.ok ∧ t.val.room 42) (fun i hil => by
        have e := hi i hil
        have hg : elems[i]? = some (elems[i]'(by omega)) := List.getElem?_eq_getElem (by omega)
        rw [hg, Option.bind_eq_some_iff] at e
        obtain ⟨cs', hcs, ht⟩ := e
        rw [cells_value] at hcs
        obtain ⟨_, hcl, hat⟩ := World.cells?_some hcs
        obtain ⟨t, rfl, hin, hok, hro⟩ := ih n2 (by omega) _ _ ht (reached_all we _ (List.mem_map.2 ⟨elems[i]'(by omega), List.getElem_mem _, rfl⟩))
        exact ⟨t, hat, hin, hok, hro⟩)
      exact ⟨some a, cap, l, by rw [hc, hll], hin, by unfold okLen at hcap; omega, by unfold okLen at hcap ⊢; omega, by simp, hok⟩
  have hD : ∃ da dc d, c4 = .slice da d.length dc ∧ InD W da d ∧ (d.length ≤ dc ∧ dc ≤ 9223372036854775807) ∧ okLen (d.length * 96) ∧ (da = none → dc = 0) ∧ ∀ f ∈ d, (okLen f.1.size ∧ f.2.ok) ∧ f.2.val.room 42 := by
    rcases DataW.trod_slice Try.underlying28 h4 with ⟨hc, -⟩ | ⟨a, len, cap, elems, rest, n2, rfl, hc, hx, -, hl, -, hel, hi, hsp, -⟩
    · simp at hc
      exact ⟨none, 0, [], hc, by intro p hp; simp [T.placesD] at hp, by simp, by simp [okLen], by simp, by simp⟩
    · simp at hc
      have e3 := congrArg Prod.fst (Option.some.inj (Eq.symm (show some (_ : DataW H × List MemPlace) = some y4 from (congrArg some hx.symm))))
      simp only at e3
      rw [e3] at w4
      simp only [DataW.weights, Try.underlying28, reached_cons, reached_append] at w4
      obtain ⟨wc, we, -⟩ := w4
      have hcap : okLen (cap * 96) := by
        have := (hsp rfl).1
        simp only [List.length_map, hel, this, bytes_field] at wc
        rw [show len + (cap - len) = cap by omega] at wc
        exact wc
      obtain ⟨l, hll, hin, hok⟩ := in_doc (W := W) (a := a) (n := len) (Q := fun f => (okLen f.1.size ∧ f.2.ok) ∧ f.2.val.room 42) (fun i hil => by
        have e := hi i hil
        have hg : elems[i]? = some (elems[i]'(by omega)) := List.getElem?_eq_getElem (by omega)
        rw [hg, Option.bind_eq_some_iff] at e
        obtain ⟨cs', hcs, ht⟩ := e
        rw [cells_field] at hcs
        obtain ⟨_, hcl, hat⟩ := World.cells?_some hcs
        have hwe := reached_all we _ (List.mem_map.2 ⟨elems[i]'(by omega), List.getElem_mem _, rfl⟩)
        obtain ⟨zs, n3, rfl, hz, hzl, hzn, hzf⟩ := DataW.trod_struct Try.underlying52 ht
        match zs, hzn with
        | [z0, z1], _ =>
        have g0 : DataW.trod enc Try.prog W 0 (fun _ => true) held n3 9 ((cs'.drop 0).take (Try.prog.cellsOf 9)) = some z0 := hzf 0 _ rfl
        have g1 : DataW.trod enc Try.prog W 0 (fun _ => true) held n3 30 ((cs'.drop 1).take (Try.prog.cellsOf 30)) = some z1 := hzf 1 _ rfl
        rw [cells_string] at g0
        rw [cells_value] at g1
        have ez := congrArg Prod.fst hz
        simp only at ez
        rw [ez] at hwe
        simp only [DataW.weights, Try.underlying52, List.map_cons, List.map_nil, DataW.weightsEach, reached_append] at hwe
        obtain ⟨w0, w1, -⟩ := hwe
        obtain ⟨f, hfc, ef, wf⟩ := DataW.trod_string Try.underlying9 g0
        obtain ⟨t, ht1, hin, hok, hro⟩ := ih n3 (by omega) _ _ g1 w1
        have hfl : okLen f.size := by
          have e2 : z0.1 = .lit (.string f.data.toList) := by have := congrArg Prod.fst ef; simpa using this
          rw [e2, DataW.weights, reached_cons] at w0
          exact reach_size w0.1
        match cs', hcl with
        | [b0, b1, b2, b3, b4, b5], _ =>
        simp at hfc ht1
        subst hfc
        exact ⟨(f, t), fun j hj => by rw [hat j hj]; simp only [fcells]; rw [← ht1], hin, ⟨hfl, hok⟩, hro⟩)
      exact ⟨some a, cap, l, by rw [hc, hll], hin, by unfold okLen at hcap; omega, by unfold okLen at hcap ⊢; omega, by simp, hok⟩
  obtain ⟨la, lc, l, rfl, hl1, hl2, hl3, hl4, hl5⟩ := hL
  obtain ⟨da, dc, d, rfl, hd1, hd2, hd3, hd4, hd5⟩ := hD
  refine ⟨.mk k m s la lc l da dc d, rfl, T.In.of_parts hl1 hd1, ?_, (T.room_mk _ _ _ _ _ _ _ _ _ _).2 ⟨by unfold okLen at hd3; omega, fun x hx => (hl5 x hx).2, fun f hf => (hd5 f hf).2⟩⟩
  simp only [T.ok, T.okL_iff, T.okD_iff]
  exact ⟨wf_okInt wk, wf_okInt wm, hsl, hl2, hl3, hl4, hd2, hd3.far, hd4, fun x hx => (hl5 x hx).1, fun f hf => (hd5 f hf).1⟩
end
end Go.Proofs.Ytgcbcmhdlgklgaa
