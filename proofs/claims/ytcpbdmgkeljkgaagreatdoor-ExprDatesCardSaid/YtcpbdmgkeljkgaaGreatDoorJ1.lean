/- Plain words for a lent value that its owner looks over and writes over. Plain words for values written over in part: no statement is proved here. The contract of Lent: no statement is proved here. An element or a field laid behind a row of the call's own: no statement is proved here. The contract of With: no statement is proved here. A document without its fields of a name, plainly: no statement is proved here. What the calls of paths say, plainly, of values: no statement is proved here. Rows of texts as they lie in memory; what stands in a value at a part: no statement is proved here. The contracts of At and of what it calls: no statement is proved here. The contract of stand: no statement is proved here. No statement is proved here. -/
import Derived.Test.YtcpbdmgkeljkgaaGreatDoorMark
import Derived.Test.YtcpbdmgkeljkgaaGreatDoorGet
import Derived.Deep.RegionLaw
import Derived.Lib.Strings
namespace Go.Proofs.YtcpbdmgkeljkgaaGreatDoor
open Go.RowKit
set_option maxRecDepth 100000

/-- Block g's cells from k on are as they were in w; n cells are there, and may be written. -/
def Live (w wr : World) (g : Nat) (e : TypeId) (n k : Nat) : Prop := ∃ cur : Array Value, wr.heap[g]? = some (.cells cur e (0, 0)) ∧ n ≤ cur.size ∧ ∀ i, k ≤ i → cur[i]? = w.cell? ⟨g, i, none⟩
theorem Live.only {w wr w' : World} {g n k : Nat} {e : TypeId} {S : List Nat} (h : Live w wr g e n k) (ho : Only S wr w') (hg : g ∉ S) : Live w w' g e n k := by
  obtain ⟨cur, h1, h2, h3⟩ := h
  exact ⟨cur, keep_row ho h1 hg, h2, h3⟩
theorem Live.put {w wr : World} {g n k c : Nat} {e : TypeId} (h : Live w wr g e n (k * c)) (vs : List Value) (hv : vs.length = c) (hn : (k + 1) * c ≤ n) : Live w (putCells wr g (k * c) vs) g e n ((k + 1) * c) := by
  obtain ⟨cur, h1, h2, h3⟩ := h
  have e1 : (k + 1) * c = k * c + c := Nat.succ_mul k c
  obtain ⟨cur', g1, g2, g3⟩ := put_block (g := g) vs (k * c) cur wr h1 (by omega)
  exact ⟨cur', g1, by omega, fun i hi => by rw [g3, if_neg (by omega)]; exact h3 i (by omega)⟩
theorem Live.cell {w wr : World} {g n k : Nat} {e : TypeId} (h : Live w wr g e n k) {i : Nat} (hi : k ≤ i) : wr.cell? ⟨g, i, none⟩ = w.cell? ⟨g, i, none⟩ := by
  obtain ⟨cur, h1, h2, h3⟩ := h
  rw [cell_of_row wr g i cur e (0, 0) h1]
  exact h3 i hi
theorem Live.room {w wr : World} {g n k : Nat} {e : TypeId} (h : Live w wr g e n k) {i : Nat} (hi : i < n) : (∃ v, wr.cell? ⟨g, i, none⟩ = some v) ∧ wr.frozen? ⟨g, i, none⟩ = false := by
  obtain ⟨cur, h1, h2, h3⟩ := h
  rw [cell_of_row wr g i cur e (0, 0) h1]
  exact ⟨⟨_, Array.getElem?_eq_getElem (by omega)⟩, frozen_of_row wr g i cur e h1⟩
theorem Live.room5 {w wr : World} {g n k : Nat} {e : TypeId} (h : Live w wr g e n k) {i : Nat} (hi : (i + 1) * 5 ≤ n) :
    ∃ v0 v1 v2 v3 v4, wr.cell? ⟨g, i * 5, none⟩ = some v0 ∧ wr.cell? ⟨g, i * 5 + 1, none⟩ = some v1 ∧ wr.cell? ⟨g, i * 5 + 2, none⟩ = some v2 ∧ wr.cell? ⟨g, i * 5 + 3, none⟩ = some v3 ∧ wr.cell? ⟨g, i * 5 + 4, none⟩ = some v4 ∧
      wr.frozen? ⟨g, i * 5, none⟩ = false ∧ wr.frozen? ⟨g, i * 5 + 1, none⟩ = false ∧ wr.frozen? ⟨g, i * 5 + 2, none⟩ = false ∧ wr.frozen? ⟨g, i * 5 + 3, none⟩ = false ∧ wr.frozen? ⟨g, i * 5 + 4, none⟩ = false := by
  obtain ⟨⟨v0, c0⟩, f0⟩ := h.room (i := i * 5) (by omega)
  obtain ⟨⟨v1, c1⟩, f1⟩ := h.room (i := i * 5 + 1) (by omega)
  obtain ⟨⟨v2, c2⟩, f2⟩ := h.room (i := i * 5 + 2) (by omega)
  obtain ⟨⟨v3, c3⟩, f3⟩ := h.room (i := i * 5 + 3) (by omega)
  obtain ⟨⟨v4, c4⟩, f4⟩ := h.room (i := i * 5 + 4) (by omega)
  exact ⟨v0, v1, v2, v3, v4, c0, c1, c2, c3, c4, f0, f1, f2, f3, f4⟩
theorem Live.room6 {w wr : World} {g n k : Nat} {e : TypeId} (h : Live w wr g e n k) {i : Nat} (hi : (i + 1) * 6 ≤ n) :
    ∃ v0 v1 v2 v3 v4 v5, wr.cell? ⟨g, i * 6, none⟩ = some v0 ∧ wr.cell? ⟨g, i * 6 + 1, none⟩ = some v1 ∧ wr.cell? ⟨g, i * 6 + 2, none⟩ = some v2 ∧ wr.cell? ⟨g, i * 6 + 3, none⟩ = some v3 ∧ wr.cell? ⟨g, i * 6 + 4, none⟩ = some v4 ∧ wr.cell? ⟨g, i * 6 + 5, none⟩ = some v5 ∧
      wr.frozen? ⟨g, i * 6, none⟩ = false ∧ wr.frozen? ⟨g, i * 6 + 1, none⟩ = false ∧ wr.frozen? ⟨g, i * 6 + 2, none⟩ = false ∧ wr.frozen? ⟨g, i * 6 + 3, none⟩ = false ∧ wr.frozen? ⟨g, i * 6 + 4, none⟩ = false ∧ wr.frozen? ⟨g, i * 6 + 5, none⟩ = false := by
  obtain ⟨⟨v0, c0⟩, f0⟩ := h.room (i := i * 6) (by omega)
  obtain ⟨⟨v1, c1⟩, f1⟩ := h.room (i := i * 6 + 1) (by omega)
  obtain ⟨⟨v2, c2⟩, f2⟩ := h.room (i := i * 6 + 2) (by omega)
  obtain ⟨⟨v3, c3⟩, f3⟩ := h.room (i := i * 6 + 3) (by omega)
  obtain ⟨⟨v4, c4⟩, f4⟩ := h.room (i := i * 6 + 4) (by omega)
  obtain ⟨⟨v5, c5⟩, f5⟩ := h.room (i := i * 6 + 5) (by omega)
  exact ⟨v0, v1, v2, v3, v4, v5, c0, c1, c2, c3, c4, c5, f0, f1, f2, f3, f4, f5⟩
/-- What a row owns stands in its block. -/
theorem own_live {w : World} {B : Nat} {e : TypeId} {c n cap : Nat} {a : Option Addr} {xs : List Value} (h : w.ownsRow B e c (.slice a (n + 1) cap) (n + 1) xs) :
    ∃ g, a = some ⟨g, 0, none⟩ ∧ n + 1 ≤ cap ∧ Live w w g e ((n + 1) * c) 0 ∧ ∀ i, i < (n + 1) * c → w.cell? ⟨g, i, none⟩ = xs[i]? := by
  obtain ⟨h1, h2⟩ := h
  rcases h2 with ⟨hv, _⟩ | ⟨g, cap', cur, hv, hb, hg, hkc, hm, hs, ht⟩
  · cases hv
  · injection hv with e1 e2 e3
    subst e1 e3
    have hle := Nat.mul_le_mul_right c hkc
    refine ⟨g, rfl, hkc, ⟨cur, hg, by omega, fun i _ => (cell_of_row w g i cur e (0, 0) hg).symm⟩, fun i hi => ?_⟩
    rw [cell_of_row w g i cur e (0, 0) hg, ← ht, List.getElem?_take_of_lt hi, Array.getElem?_toList]

theorem blocks_flat {α : Type} (f : α → List Row) (l : List α) : blocksOf (l.flatMap f) = l.flatMap fun x => blocksOf (f x) := by
  unfold blocksOf
  rw [List.filterMap_flatMap]
/-- A lent value's blocks, one by one: none twice. -/
structure Kin (S : List Nat) (g1 g2 : Nat) (l : List T) (d : List (ByteArray × T)) : Prop where
  in1 : g1 ∈ S
  in2 : g2 ∈ S
  inL : ∀ x ∈ l, ∀ b ∈ blocksOf x.mrows, b ∈ S ∧ b ≠ g1 ∧ b ≠ g2
  inD : ∀ x ∈ d, ∀ b ∈ blocksOf x.2.mrows, b ∈ S ∧ b ≠ g1 ∧ b ≠ g2
  ne : g1 ≠ g2
  apL : ∀ (i j : Nat) (x y : T), l[i]? = some x → l[j]? = some y → i ≠ j → ∀ b ∈ blocksOf x.mrows, b ∉ blocksOf y.mrows
  apD : ∀ (i j : Nat) (x y : ByteArray × T), d[i]? = some x → d[j]? = some y → i ≠ j → ∀ b ∈ blocksOf x.2.mrows, b ∉ blocksOf y.2.mrows
  apLD : ∀ x ∈ l, ∀ y ∈ d, ∀ b ∈ blocksOf x.mrows, b ∉ blocksOf y.2.mrows
theorem pair_at {α : Type} {R : α → α → Prop} (hs : ∀ x y, R x y → R y x) {l : List α} (h : l.Pairwise R) {i j : Nat} {x y : α} (hx : l[i]? = some x) (hy : l[j]? = some y) (hij : i ≠ j) : R x y := by
  obtain ⟨h1, rfl⟩ := List.getElem?_eq_some_iff.1 hx
  obtain ⟨h2, rfl⟩ := List.getElem?_eq_some_iff.1 hy
  rcases Nat.lt_or_gt_of_ne hij with h3 | h3
  · exact List.pairwise_iff_getElem.1 h i j h1 h2 h3
  · exact hs _ _ (List.pairwise_iff_getElem.1 h j i h2 h1 h3)
theorem marked_kids {w : World} {B : Nat} {k n : Int} {s : ByteArray} {lc dc g1 g2 : Nat} {l : List T} {d : List (ByteArray × T)} (h : T.Marked w B (.mk k n s (some ⟨g1, 0, none⟩) lc l (some ⟨g2, 0, none⟩) dc d)) :
    Kin (blocksOf (T.mrows (.mk k n s (some ⟨g1, 0, none⟩) lc l (some ⟨g2, 0, none⟩) dc d))) g1 g2 l d ∧ (∀ x ∈ l, x.Marked w B) ∧ ∀ f ∈ d, f.2.Marked w B := by
  obtain ⟨ok, owns, nodup⟩ := h
  have hb : blocksOf (T.mrows (.mk k n s (some ⟨g1, 0, none⟩) lc l (some ⟨g2, 0, none⟩) dc d)) = g1 :: g2 :: ((l.flatMap fun x => blocksOf x.mrows) ++ d.flatMap fun f => blocksOf f.2.mrows) := by
    simp only [T.mrows, T.mrowsL_eq, T.mrowsD_eq]
    rw [← blocks_flat, ← blocks_flat, ← blocksOf_append]
    rfl
  rw [hb] at nodup ⊢
  obtain ⟨n1, nodup⟩ := List.nodup_cons.1 nodup
  obtain ⟨n2, nodup⟩ := List.nodup_cons.1 nodup
  obtain ⟨nl, nd, nld⟩ := List.nodup_append.1 nodup
  obtain ⟨nl1, nl2⟩ := List.pairwise_flatMap.1 nl
  obtain ⟨nd1, nd2⟩ := List.pairwise_flatMap.1 nd
  have mL : ∀ x ∈ l, ∀ b ∈ blocksOf x.mrows, b ∈ (l.flatMap fun x => blocksOf x.mrows) := fun x hx b hb => List.mem_flatMap.2 ⟨x, hx, hb⟩
  have mD : ∀ x ∈ d, ∀ b ∈ blocksOf x.2.mrows, b ∈ (d.flatMap fun f => blocksOf f.2.mrows) := fun x hx b hb => List.mem_flatMap.2 ⟨x, hx, hb⟩
  have hk := owns.tail.tail
  simp only [T.mrowsL_eq, T.mrowsD_eq] at hk
  simp only [T.ok, T.okL_iff, T.okD_iff] at ok
  obtain ⟨-, -, -, -, -, -, -, -, -, okl, okd⟩ := ok
  refine ⟨⟨by simp, by simp, fun x hx b hm => ⟨?_, ?_, ?_⟩, fun x hx b hm => ⟨?_, ?_, ?_⟩, ?_, ?_, ?_, ?_⟩, fun x hx => ⟨okl x hx, ?_, nl1 x hx⟩, fun x hx => ⟨(okd x hx).2, ?_, nd1 x hx⟩⟩
  · simp only [List.mem_cons, List.mem_append]; exact .inr (.inr (.inl (mL x hx b hm)))
  · intro e; exact n1 (by rw [← e]; simp only [List.mem_cons, List.mem_append]; exact .inr (.inl (mL x hx b hm)))
  · intro e; exact n2 (by rw [← e]; simp only [List.mem_append]; exact .inl (mL x hx b hm))
  · simp only [List.mem_cons, List.mem_append]; exact .inr (.inr (.inr (mD x hx b hm)))
  · intro e; exact n1 (by rw [← e]; simp only [List.mem_cons, List.mem_append]; exact .inr (.inr (mD x hx b hm)))
  · intro e; exact n2 (by rw [← e]; simp only [List.mem_append]; exact .inr (mD x hx b hm))
  · intro e; exact n1 (by rw [e]; simp)
  · intro i j x y hx hy hij b hb hb'
    exact pair_at (R := fun x y => ∀ a ∈ blocksOf x.mrows, ∀ b ∈ blocksOf y.mrows, a ≠ b) (fun x y h a ha b hb e => h b hb a ha e.symm) nl2 hx hy hij b hb b hb' rfl
  · intro i j x y hx hy hij b hb hb'
    exact pair_at (R := fun x y => ∀ a ∈ blocksOf x.2.mrows, ∀ b ∈ blocksOf y.2.mrows, a ≠ b) (fun x y h a ha b hb e => h b hb a ha e.symm) nd2 hx hy hij b hb b hb' rfl
  · intro x hx y hy b hb hb'
    exact nld b (mL x hx b hb) b (mD y hy b hb') rfl
  · exact fun r hr => hk r (List.mem_append.2 (.inl (List.mem_flatMap.2 ⟨x, hx, hr⟩)))
  · exact fun r hr => hk r (List.mem_append.2 (.inr (List.mem_flatMap.2 ⟨x, hx, hr⟩)))

/-- What stands of a lent value when k elements and j fields are looked over. -/
structure KeptRel (w wr : World) (B : Nat) (S : List Nat) (g1 g2 : Nat) (l : List T) (d : List (ByteArray × T)) (ca cb : List Value) (k j : Nat) : Prop where
  only : Only S w wr
  row1 : Live w wr g1 28 ((l.length + 1) * 5) (k * 5)
  row2 : Live w wr g2 44 ((d.length + 1) * 6) (j * 6)
  kidL : ∀ i x, k ≤ i → l[i]? = some x → x.Marked wr B
  kidD : ∀ i x, j ≤ i → d[i]? = some x → x.2.Marked wr B
  box1 : wr.heap[w.heap.size]? = some (.cells ca.toArray 28 (0, 0))
  box2 : wr.heap[w.heap.size + 1]? = some (.cells cb.toArray 28 (0, 0))
theorem KeptRel.drew {w wr : World} {B g1 g2 k j : Nat} {S : List Nat} {l : List T} {d : List (ByteArray × T)} {ca cb : List Value} (h : KeptRel w wr B S g1 g2 l d ca cb k j) : KeptRel w wr.drew B S g1 g2 l d ca cb k j :=
  ⟨h.only.drew, h.row1, h.row2, fun i x hi hx => let m := h.kidL i x hi hx; ⟨m.ok, m.owns, m.nodup⟩, fun i x hi hx => let m := h.kidD i x hi hx; ⟨m.ok, m.owns, m.nodup⟩, h.box1, h.box2⟩
theorem KeptRel.drewN {w wr : World} {B g1 g2 k j : Nat} {S : List Nat} {l : List T} {d : List (ByteArray × T)} {ca cb : List Value} (h : KeptRel w wr B S g1 g2 l d ca cb k j) (n : Nat) : KeptRel w (wr.drewN n) B S g1 g2 l d ca cb k j :=
  ⟨⟨h.only.os, h.only.tape, h.only.output, h.only.size, h.only.block⟩, h.row1, h.row2, fun i x hi hx => let m := h.kidL i x hi hx; ⟨m.ok, m.owns, m.nodup⟩, fun i x hi hx => let m := h.kidD i x hi hx; ⟨m.ok, m.owns, m.nodup⟩, h.box1, h.box2⟩
theorem kept_stepL {w wr w1 : World} {B g1 g2 k j : Nat} {S : List Nat} {l : List T} {d : List (ByteArray × T)} {ca cb : List Value} {x : T} (R : KeptRel w wr B S g1 g2 l d ca cb k j) (K : Kin S g1 g2 l d) (hS : ∀ b ∈ S, b < w.heap.size) (hx : l[k]? = some x) (ho : Only (blocksOf x.mrows) wr w1) (vs : List Value) (hv : vs.length = 5) :
    KeptRel w (putCells w1 g1 (k * 5) vs) B S g1 g2 l d ca cb (k + 1) j := by
  have hxm := List.mem_of_getElem? hx
  have hk : k < l.length := (List.getElem?_eq_some_iff.1 hx).1
  have p := put_only vs g1 (k * 5) w1
  have q : Only (g1 :: blocksOf x.mrows) wr (putCells w1 g1 (k * 5) vs) := (ho.mono (fun b hb => .inl (List.mem_cons_of_mem _ hb))).trans (p.mono (by simp))
  have hg : g1 ∉ blocksOf x.mrows := fun h => (K.inL x hxm _ h).2.1 rfl
  refine ⟨R.only.then_ q (fun b hb => .inl ?_), (R.row1.only ho hg).put vs hv (by omega), R.row2.only q ?_, fun i y hi hy => ?_, fun i y hi hy => ?_, keep_row q R.box1 ?_, keep_row q R.box2 ?_⟩
  · rcases List.mem_cons.1 hb with rfl | hb
    · exact K.in1
    · exact (K.inL x hxm b hb).1
  · intro h
    rcases List.mem_cons.1 h with h | h
    · exact K.ne h.symm
    · exact (K.inL x hxm _ h).2.2 rfl
  · refine (R.kidL i y (by omega) hy).keep q (fun b hb h => ?_) (Nat.le_refl _)
    rcases List.mem_cons.1 h with h | h
    · exact (K.inL y (List.mem_of_getElem? hy) b hb).2.1 h
    · exact K.apL i k y x hy hx (by omega) b hb h
  · refine (R.kidD i y hi hy).keep q (fun b hb h => ?_) (Nat.le_refl _)
    rcases List.mem_cons.1 h with h | h
    · exact (K.inD y (List.mem_of_getElem? hy) b hb).2.1 h
    · exact K.apLD x hxm y (List.mem_of_getElem? hy) b h hb
  · intro h
    rcases List.mem_cons.1 h with h | h
    · have := hS _ K.in1; omega
    · have := hS _ (K.inL x hxm _ h).1; omega
  · intro h
    rcases List.mem_cons.1 h with h | h
    · have := hS _ K.in1; omega
    · have := hS _ (K.inL x hxm _ h).1; omega
theorem kept_stepD {w wr w1 : World} {B g1 g2 k j : Nat} {S : List Nat} {l : List T} {d : List (ByteArray × T)} {ca cb : List Value} {x : ByteArray × T} (R : KeptRel w wr B S g1 g2 l d ca cb k j) (K : Kin S g1 g2 l d) (hS : ∀ b ∈ S, b < w.heap.size) (hk : l.length ≤ k) (hx : d[j]? = some x) (ho : Only (blocksOf x.2.mrows) wr w1) (vs : List Value) (hv : vs.length = 6) :
    KeptRel w (putCells w1 g2 (j * 6) vs) B S g1 g2 l d ca cb k (j + 1) := by
  have hxm := List.mem_of_getElem? hx
  have hj : j < d.length := (List.getElem?_eq_some_iff.1 hx).1
  have p := put_only vs g2 (j * 6) w1
  have q : Only (g2 :: blocksOf x.2.mrows) wr (putCells w1 g2 (j * 6) vs) := (ho.mono (fun b hb => .inl (List.mem_cons_of_mem _ hb))).trans (p.mono (by simp))
  have hg : g2 ∉ blocksOf x.2.mrows := fun h => (K.inD x hxm _ h).2.2 rfl
  refine ⟨R.only.then_ q (fun b hb => .inl ?_), R.row1.only q ?_, (R.row2.only ho hg).put vs hv (by omega), fun i y hi hy => ?_, fun i y hi hy => ?_, keep_row q R.box1 ?_, keep_row q R.box2 ?_⟩
  · rcases List.mem_cons.1 hb with rfl | hb
    · exact K.in2
    · exact (K.inD x hxm b hb).1
  · intro h
    rcases List.mem_cons.1 h with h | h
    · exact K.ne h
    · exact (K.inD x hxm _ h).2.1 rfl
  · have := (List.getElem?_eq_some_iff.1 hy).1
    omega
  · refine (R.kidD i y (by omega) hy).keep q (fun b hb h => ?_) (Nat.le_refl _)
    rcases List.mem_cons.1 h with h | h
    · exact (K.inD y (List.mem_of_getElem? hy) b hb).2.2 h
    · exact K.apD i j y x hy hx (by omega) b hb h
  · intro h
    rcases List.mem_cons.1 h with h | h
    · have := hS _ K.in2; omega
    · have := hS _ (K.inD x hxm _ h).1; omega
  · intro h
    rcases List.mem_cons.1 h with h | h
    · have := hS _ K.in2; omega
    · have := hS _ (K.inD x hxm _ h).1; omega

/-- The five cells of an element that is not yet looked over. -/
theorem live_five {w wr : World} {g n k : Nat} {l : List T} {xs : List Value} (h : Live w wr g 28 n (k * 5)) (hc : ∀ i, i < (l.length + 1) * 5 → w.cell? ⟨g, i, none⟩ = (l.flatMap T.cells ++ xs)[i]?) {kx nx : Int} {sx : ByteArray} {la : Option Addr} {lc : Nat} {lx : List T} {da : Option Addr} {dc : Nat} {dx : List (ByteArray × T)} (hx : l[k]? = some (.mk kx nx sx la lc lx da dc dx)) :
    wr.cell? ⟨g, k * 5, none⟩ = some (.int .i64 kx) ∧ wr.cell? ⟨g, k * 5 + 1, none⟩ = some (.int .i64 nx) ∧ wr.cell? ⟨g, k * 5 + 2, none⟩ = some (.string sx) ∧ wr.cell? ⟨g, k * 5 + 3, none⟩ = some (.slice la lx.length lc) ∧ wr.cell? ⟨g, k * 5 + 4, none⟩ = some (.slice da dx.length dc) := by
  have hk : k < l.length := (List.getElem?_eq_some_iff.1 hx).1
  have key : ∀ j, j < 5 → wr.cell? ⟨g, k * 5 + j, none⟩ = (T.cells (.mk kx nx sx la lc lx da dc dx))[j]? := fun j hj => by
    rw [h.cell (by omega), hc _ (by omega), List.getElem?_append_left (by rw [flat_len]; omega)]
    exact flatMap_get T.cells 5 cells_len l k _ hx j hj
  exact ⟨key 0 (by omega), key 1 (by omega), key 2 (by omega), key 3 (by omega), key 4 (by omega)⟩
theorem live_six {w wr : World} {g n k : Nat} {l : List (ByteArray × T)} {xs : List Value} (h : Live w wr g 44 n (k * 6)) (hc : ∀ i, i < (l.length + 1) * 6 → w.cell? ⟨g, i, none⟩ = (l.flatMap fcells ++ xs)[i]?) {f : ByteArray} {kx nx : Int} {sx : ByteArray} {la : Option Addr} {lc : Nat} {lx : List T} {da : Option Addr} {dc : Nat} {dx : List (ByteArray × T)} (hx : l[k]? = some (f, .mk kx nx sx la lc lx da dc dx)) :
    wr.cell? ⟨g, k * 6, none⟩ = some (.string f) ∧ wr.cell? ⟨g, k * 6 + 1, none⟩ = some (.int .i64 kx) ∧ wr.cell? ⟨g, k * 6 + 2, none⟩ = some (.int .i64 nx) ∧ wr.cell? ⟨g, k * 6 + 3, none⟩ = some (.string sx) ∧ wr.cell? ⟨g, k * 6 + 4, none⟩ = some (.slice la lx.length lc) ∧ wr.cell? ⟨g, k * 6 + 5, none⟩ = some (.slice da dx.length dc) := by
  have hk : k < l.length := (List.getElem?_eq_some_iff.1 hx).1
  have key : ∀ j, j < 6 → wr.cell? ⟨g, k * 6 + j, none⟩ = (fcells (f, .mk kx nx sx la lc lx da dc dx))[j]? := fun j hj => by
    rw [h.cell (by omega), hc _ (by omega), List.getElem?_append_left (by rw [fflat_len]; omega)]
    exact flatMap_getD fcells 6 fcells_len l k _ hx j hj
  exact ⟨key 0 (by omega), key 1 (by omega), key 2 (by omega), key 3 (by omega), key 4 (by omega), key 5 (by omega)⟩
/-- What lies apart from a lent value lies there still. -/
theorem In.only {w wr : World} {S : List Nat} {t : T} (h : t.In w) (ho : Only S w wr) (hs : ∀ p ∈ t.places, p.1.block ∉ S) : t.In wr := fun p hp =>
  (World.cell?_of_block (ho.block _ (cell_lt (h p hp)) (hs p hp))).trans (h p hp)
end Go.Proofs.YtcpbdmgkeljkgaaGreatDoor
namespace Go.Proofs.YtcpbdmgkeljkgaaGreatDoor
open Go.RowKit
set_option maxRecDepth 100000

/-- Cells in the midst of a row, written over. -/
theorem own_mid {w : World} {B : Nat} {e : TypeId} {c g n cap : Nat} {xs ys vs us : List Value} (h : w.ownsRow B e c (.slice (some ⟨g, 0, none⟩) n cap) n (xs ++ vs ++ ys)) (hv : us.length = vs.length) :
    (putCells w g xs.length us).ownsRow B e c (.slice (some ⟨g, 0, none⟩) n cap) n (xs ++ us ++ ys) := by
  obtain ⟨h1, h2⟩ := h
  rcases h2 with ⟨hv', h0, _⟩ | ⟨g', cap', cur, hv', hb, hg, hkc, hm, hs, ht⟩
  · cases hv'
  · injection hv' with e1 e2 e3
    injection e1 with e1
    injection e1 with e1
    subst e1 e3
    have hnc := Nat.mul_le_mul_right c hkc
    simp only [List.length_append] at h1
    obtain ⟨cur', g1, g2, g3⟩ := put_block (g := g) us xs.length cur w hg (by omega)
    refine ⟨by simp only [List.length_append]; omega, .inr ⟨g, cap, cur', rfl, hb, g1, hkc, hm, by rw [g2, hs], ?_⟩⟩
    apply List.ext_getElem?
    intro i
    have hxs : ∀ i, i < n * c → (xs ++ vs ++ ys)[i]? = cur[i]? := fun i hi => by rw [← ht, List.getElem?_take_of_lt hi, Array.getElem?_toList]
    by_cases c1 : i < n * c
    · rw [List.getElem?_take_of_lt c1, Array.getElem?_toList, g3]
      by_cases c2 : i < xs.length
      · rw [if_neg (by omega), List.append_assoc, List.getElem?_append_left c2, ← hxs i c1, List.append_assoc, List.getElem?_append_left c2]
      · by_cases c3 : i < xs.length + us.length
        · rw [if_pos (by omega), List.append_assoc, List.getElem?_append_right (by omega), List.getElem?_append_left (by omega)]
        · rw [if_neg (by omega), ← hxs i c1, List.getElem?_append_right (by simp; omega), List.getElem?_append_right (by simp; omega)]
          simp only [List.length_append, hv]
    · rw [List.getElem?_eq_none (by rw [List.length_take, Array.length_toList, g2]; omega), List.getElem?_eq_none (by simp only [List.length_append]; omega)]

theorem split_at {α : Type} {l : List α} {j : Nat} {x : α} (h : l[j]? = some x) : ∃ l1 l2, l = l1 ++ x :: l2 ∧ l1.length = j := by
  obtain ⟨hj, rfl⟩ := List.getElem?_eq_some_iff.1 h
  exact ⟨l.take j, l.drop (j + 1), by rw [List.getElem_cons_drop, List.take_append_drop], by simp; omega⟩
theorem rows_mk (k n : Int) (s : ByteArray) (la : Option Addr) (lc : Nat) (l : List T) (da : Option Addr) (dc : Nat) (d : List (ByteArray × T)) :
    T.rows (.mk k n s la lc l da dc d) = ⟨28, 5, .slice la l.length lc, l.length, l.flatMap T.cells⟩ :: ⟨44, 6, .slice da d.length dc, d.length, d.flatMap fcells⟩ :: ((l.flatMap T.rows) ++ d.flatMap fun f => f.2.rows) := by
  simp only [T.rows, T.rowsL_eq, T.rowsD_eq]
theorem blocks_sub {a b : List Row} (h : a.Sublist b) : (blocksOf a).Sublist (blocksOf b) := h.filterMap _

theorem blocks_mk {k n : Int} {s : ByteArray} {la : Option Addr} {lc : Nat} {l : List T} {da : Option Addr} {dc : Nat} {d : List (ByteArray × T)} {b : Nat} :
    b ∈ blocksOf (T.rows (.mk k n s la lc l da dc d)) ↔ (Value.slice la l.length lc).ownBlock = some b ∨ (Value.slice da d.length dc).ownBlock = some b ∨ (∃ x ∈ l, b ∈ blocksOf x.rows) ∨ ∃ f ∈ d, b ∈ blocksOf f.2.rows := by
  rw [rows_mk]
  unfold blocksOf
  simp only [List.mem_filterMap, List.mem_cons, List.mem_append, List.mem_flatMap]
  constructor
  · rintro ⟨r, h | h | ⟨x, hx, h⟩ | ⟨x, hx, h⟩, hr⟩
    · subst h; exact .inl hr
    · subst h; exact .inr (.inl hr)
    · exact .inr (.inr (.inl ⟨x, hx, r, h, hr⟩))
    · exact .inr (.inr (.inr ⟨x, hx, r, h, hr⟩))
  · rintro (h | h | ⟨x, hx, r, h, hr⟩ | ⟨x, hx, r, h, hr⟩)
    · exact ⟨_, .inl rfl, h⟩
    · exact ⟨_, .inr (.inl rfl), h⟩
    · exact ⟨r, .inr (.inr (.inl ⟨x, hx, h⟩)), hr⟩
    · exact ⟨r, .inr (.inr (.inr ⟨x, hx, h⟩)), hr⟩
theorem T.Own.apart {w w' : World} {B B' : Nat} {t : T} {S : List Nat} (h : t.Own w B) (ho : Only S w w') (hS : ∀ b ∈ blocksOf t.rows, b ∉ S) (hB : B' ≤ B) : t.Own w' B' :=
  ⟨h.ok, (h.owns.only ho hS).base hB, h.nodup⟩

/-- A field's value written over with one that lies behind. -/
theorem own_setD {w w1 : World} {B B1 : Nat} {k n : Int} {s : ByteArray} {la : Option Addr} {lc : Nat} {l : List T} {g dc : Nat} {d1 d2 : List (ByteArray × T)} {f : ByteArray} {x y : T}
    (h : T.Own w B (.mk k n s la lc l (some ⟨g, 0, none⟩) dc (d1 ++ (f, x) :: d2))) (hy : y.Own w1 B1) (hb : Below w.heap.size w w1) (hB : w.heap.size ≤ B1) (hB0 : B ≤ B1) :
    T.Own (putCells w1 g (d1.length * 6 + 1) y.cells) B (.mk k n s la lc l (some ⟨g, 0, none⟩) dc (d1 ++ (f, y) :: d2)) := by
  obtain ⟨ok, owns, nodup⟩ := h
  have o1 := owns.below hb
  rw [rows_mk] at o1 nodup owns
  have hg := owns_lt owns
  have hgm : g ∈ blocksOf (T.rows (.mk k n s la lc l (some ⟨g, 0, none⟩) dc (d1 ++ (f, x) :: d2))) := by
    rw [rows_mk]; exact List.mem_filterMap.2 ⟨_, List.mem_cons_of_mem _ (List.mem_cons_self ..), rfl⟩
  rw [rows_mk] at hgm
  have hglt := hg g hgm
  have hyg : ∀ b ∈ blocksOf y.rows, b ≠ g := fun b hb e => by have := (owns_lt hy.owns b hb).1; omega
  have p := put_only y.cells g (d1.length * 6 + 1) w1
  have hsub : (⟨28, 5, .slice la l.length lc, l.length, l.flatMap T.cells⟩ :: ((l.flatMap T.rows) ++ (d1.flatMap (fun f => f.2.rows) ++ d2.flatMap fun f => f.2.rows)) : List Row).Sublist
      (⟨28, 5, .slice la l.length lc, l.length, l.flatMap T.cells⟩ :: (l.flatMap T.rows ++ (d1 ++ (f, x) :: d2).flatMap fun f => f.2.rows)) := by
    rw [List.flatMap_append, List.flatMap_cons]
    exact (List.Sublist.append_left (List.Sublist.append_left (List.sublist_append_right _ _) _) _).cons_cons _
  have hnd2 : (blocksOf (⟨28, 5, .slice la l.length lc, l.length, l.flatMap T.cells⟩ :: (l.flatMap T.rows ++ (d1 ++ (f, x) :: d2).flatMap fun f => f.2.rows))).Nodup ∧ g ∉ blocksOf (⟨28, 5, .slice la l.length lc, l.length, l.flatMap T.cells⟩ :: (l.flatMap T.rows ++ (d1 ++ (f, x) :: d2).flatMap fun f => f.2.rows)) := by
    have hp : (⟨28, 5, .slice la l.length lc, l.length, l.flatMap T.cells⟩ :: ⟨44, 6, .slice (some ⟨g, 0, none⟩) (d1 ++ (f, x) :: d2).length dc, (d1 ++ (f, x) :: d2).length, (d1 ++ (f, x) :: d2).flatMap fcells⟩ :: (l.flatMap T.rows ++ (d1 ++ (f, x) :: d2).flatMap fun f => f.2.rows) : List Row).Perm
        (⟨44, 6, .slice (some ⟨g, 0, none⟩) (d1 ++ (f, x) :: d2).length dc, (d1 ++ (f, x) :: d2).length, (d1 ++ (f, x) :: d2).flatMap fcells⟩ :: ⟨28, 5, .slice la l.length lc, l.length, l.flatMap T.cells⟩ :: (l.flatMap T.rows ++ (d1 ++ (f, x) :: d2).flatMap fun f => f.2.rows)) := List.Perm.swap _ _ _
    have := (hp.filterMap (fun r : Row => r.v.ownBlock)).nodup_iff.1 nodup
    simp only [List.filterMap_cons (l := _ :: _), Value.ownBlock] at this
    have h2 := List.nodup_cons.1 this
    exact ⟨h2.2, h2.1⟩
  have hnd3 := hnd2.1.sublist (blocks_sub hsub)
  have hgn : g ∉ blocksOf (⟨28, 5, .slice la l.length lc, l.length, l.flatMap T.cells⟩ :: ((l.flatMap T.rows) ++ (d1.flatMap (fun f => f.2.rows) ++ d2.flatMap fun f => f.2.rows))) := fun hc => hnd2.2 ((blocks_sub hsub).subset hc)
  have hrest : Owns w1 B (⟨28, 5, .slice la l.length lc, l.length, l.flatMap T.cells⟩ :: ((l.flatMap T.rows) ++ (d1.flatMap (fun f => f.2.rows) ++ d2.flatMap fun f => f.2.rows))) := fun r hr => by
    rcases List.mem_cons.1 (hsub.subset hr) with rfl | hr
    · exact o1 _ (List.mem_cons_self ..)
    · exact o1 r (List.mem_cons_of_mem _ (List.mem_cons_of_mem _ hr))
  have hrest2 := hrest.only p (fun b hb hc => by simp at hc; subst hc; exact hgn hb)
  have hy2 := hy.owns.only p (fun b hb hc => by simp at hc; exact hyg b hb hc)
  have hall : (T.rows (.mk k n s la lc l (some ⟨g, 0, none⟩) dc (d1 ++ (f, y) :: d2))).Perm
      (⟨44, 6, .slice (some ⟨g, 0, none⟩) (d1 ++ (f, y) :: d2).length dc, (d1 ++ (f, y) :: d2).length, (d1 ++ (f, y) :: d2).flatMap fcells⟩ :: ((⟨28, 5, .slice la l.length lc, l.length, l.flatMap T.cells⟩ :: ((l.flatMap T.rows) ++ (d1.flatMap (fun f => f.2.rows) ++ d2.flatMap fun f => f.2.rows))) ++ y.rows)) := by
    rw [rows_mk]
    refine (List.Perm.swap _ _ _).trans (List.Perm.cons _ ?_)
    rw [List.cons_append]
    refine List.Perm.cons _ ?_
    rw [List.flatMap_append, List.flatMap_cons, List.append_assoc, List.append_assoc]
    exact List.Perm.append_left _ (List.Perm.append_left _ List.perm_append_comm)
  have hrow : (putCells w1 g (d1.length * 6 + 1) y.cells).ownsRow B 44 6 (.slice (some ⟨g, 0, none⟩) (d1 ++ (f, y) :: d2).length dc) (d1 ++ (f, y) :: d2).length ((d1 ++ (f, y) :: d2).flatMap fcells) := by
    have o2 : w1.ownsRow B 44 6 (.slice (some ⟨g, 0, none⟩) (d1 ++ (f, x) :: d2).length dc) (d1 ++ (f, x) :: d2).length ((d1.flatMap fcells ++ [.string f]) ++ x.cells ++ d2.flatMap fcells) := by
      have := o1 _ (List.mem_cons_of_mem _ (List.mem_cons_self ..))
      simpa [fcells] using this
    have o3 := own_mid o2 (us := y.cells) (by rw [cells_len, cells_len])
    have e1 : (d1.flatMap fcells ++ [Value.string f]).length = d1.length * 6 + 1 := by rw [List.length_append, fflat_len]; rfl
    rw [e1] at o3
    simpa [fcells] using o3
  refine ⟨?_, ?_, ?_⟩
  · simp only [T.ok, T.okL_iff, T.okD_iff] at ok ⊢
    obtain ⟨q1, q2, q3, q4, q5, q6, q7, q8, q9, q10, q11⟩ := ok
    refine ⟨q1, q2, q3, q4, q5, q6, by simpa using q7, by simpa using q8, q9, q10, fun z hz => ?_⟩
    rcases List.mem_append.1 hz with hz | hz
    · exact q11 z (List.mem_append.2 (.inl hz))
    · rcases List.mem_cons.1 hz with rfl | hz
      · exact ⟨(q11 (f, x) (by simp)).1, hy.ok⟩
      · exact q11 z (List.mem_append.2 (.inr (List.mem_cons_of_mem _ hz)))
  · intro r hr
    rcases List.mem_cons.1 (hall.mem_iff.1 hr) with rfl | hr
    · exact hrow
    · rcases List.mem_append.1 hr with hr | hr
      · exact hrest2 r hr
      · exact (hy2.base hB0) r hr
  · refine (hall.filterMap _).nodup_iff.2 ?_
    simp only [List.filterMap_cons (l := _ ++ _), Value.ownBlock]
    refine List.nodup_cons.2 ⟨fun hc => ?_, ?_⟩
    · have hc2 : g ∈ blocksOf ((⟨28, 5, .slice la l.length lc, l.length, l.flatMap T.cells⟩ :: ((l.flatMap T.rows) ++ (d1.flatMap (fun f => f.2.rows) ++ d2.flatMap fun f => f.2.rows))) ++ y.rows) := hc
      rw [blocksOf_append] at hc2
      rcases List.mem_append.1 hc2 with hc | hc
      · exact hgn hc
      · exact hyg g hc rfl
    · have hrest0 : Owns w B (⟨28, 5, .slice la l.length lc, l.length, l.flatMap T.cells⟩ :: ((l.flatMap T.rows) ++ (d1.flatMap (fun f => f.2.rows) ++ d2.flatMap fun f => f.2.rows))) := fun r hr => by
        rcases List.mem_cons.1 (hsub.subset hr) with rfl | hr
        · exact owns _ (List.mem_cons_self ..)
        · exact owns r (List.mem_cons_of_mem _ (List.mem_cons_of_mem _ hr))
      exact nodup_behind hrest0 hy.owns hB hnd3 hy.nodup
end Go.Proofs.YtcpbdmgkeljkgaaGreatDoor
namespace Go.Proofs.YtcpbdmgkeljkgaaGreatDoor
open Go.RowKit
set_option maxRecDepth 100000

theorem make_lent {P : Program} (t e : TypeId) (z : Value) (size bytes : Nat) (ht : P.underlying t = some (.slice e)) (hi : (P.info? e).map (fun i => (i.zero, i.size, i.bytes)) = some (some z, size, bytes)) (n : Nat) (hb : bytes * (n + 1) ≤ 281474976710656) (hc : n + 1 ≤ 9223372036854775807) :
    ∃ cur : Array Value, cur.size = (n + 1) * size ∧ ∀ w : World, (Instr.makeSlice t (.int .i64 0) (.int .i64 ((n : Int) + 1))).run P w = .ok (.slice (some ⟨w.heap.size, 0, none⟩) 0 (n + 1)) (w.alloc (.cells cur e)) := by
  obtain ⟨cur, h1, h2⟩ := make_any t e z size bytes ht hi 0 (n + 1) (by omega) hb hc
  exact ⟨cur, h1, fun w => by have := h2 w; simpa using this⟩
theorem news_at (w : World) (cs : Array Value) (t : TypeId) (g : Nat) (hg : g = w.heap.size) : ∀ j u, cs.toList[j]? = some u → (w.alloc (.cells cs t)).cell? ((⟨g, 0, none⟩ : Addr).add j) = some u := by
  subst hg
  exact World.news_of_block (heap_alloc_new w _)
/-- append within the capacity, as one step of a region that draws. -/
theorem step_append_fits {P : Program} {ops : Array Oper} {o : Oper} {a : Act} {w : World} {K : Act → World → Prop} {Q : Exit → Act → World → Prop} {E : Prop}
    (hgd : o.guard = none) (s x : Operand) (t : TypeId) (hop : o.op = Op.call { callee := Callee.builtin Builtin.append, args := #[s, x], argTypes := #[t, t] })
    (base : Nat) (e : TypeId) (i : TypeInfo) (size : Nat) (h1 : P.underlying t = some (.slice e)) (h2 : P.info? e = some i) (h4 : i.size = size)
    (g k cap : Nat) (xs : List Value) (hs : a.eval s = .slice (some ⟨g, 0, none⟩) k cap) (hown : w.ownsRow base e size (.slice (some ⟨g, 0, none⟩) k cap) k xs)
    (ad : Addr) (m c : Nat) (news : List Value) (hx : a.eval x = .slice (some ad) m c) (hn : news.length = m * size) (hc : ∀ j u, news[j]? = some u → w.cell? (ad.add j) = some u) (h1c : ∀ u ∈ news, u.oneCell' = true) (b1 : k + m ≤ cap)
    (hK : ∀ w', w'.ownsRow base e size (.slice (some ⟨g, 0, none⟩) (k + m) cap) (k + m) (xs ++ news) → w.grownBy w' (some g) → K (a.put o.dst (.slice (some ⟨g, 0, none⟩) (k + m) cap)) w') :
    if Region.wanted o (yielded ops a.tmps) = true then Oper.wp P o a w K Q else E := by
  have hw : Region.wanted o (yielded ops a.tmps) = true := by simp [Region.wanted, hgd]
  rw [if_pos hw]
  obtain ⟨w', hrun, r1, r2⟩ := run_append_fits (P := P) w base t o.type e i size h1 h2 h4 g k cap xs hown ad m c news hn hc h1c b1
  unfold Oper.wp
  simp [execOp, hop, resolve, invoke, builtin, hs, hx, hrun, Result.andThen]
  exact hK w' r1 r2

theorem below_only2 {w1 w2 : World} {X Y : Obj} {g : Nat} (h : ((w1.alloc X).alloc Y).grownBy w2 (some g)) : Only [g] w1 w2 := (Only.of_below (below2 w1 X Y)).trans (Only.of_grown h)
theorem below_drawn (w : World) (X Y : Obj) : Below w.heap.size w (((w.alloc X).drew).alloc Y) := ((below1 w X).drew).alloc (by simp) Y
theorem below_only3 {w1 w2 : World} {X Y : Obj} {g : Nat} (h : (((w1.alloc X).drew).alloc Y).grownBy w2 (some g)) : Only [g] w1 w2 := (Only.of_below (below_drawn w1 X Y)).trans (Only.of_grown h)
end Go.Proofs.YtcpbdmgkeljkgaaGreatDoor
namespace Go.Proofs.YtcpbdmgkeljkgaaGreatDoor
open Go.RowKit
set_option maxRecDepth 100000

/-- A field more, in a row that has grown or moved. -/
theorem own_addD {w w1 w2 : World} {B B1 : Nat} {k n : Int} {s : ByteArray} {la : Option Addr} {lc : Nat} {l : List T} {da : Option Addr} {dc g cap : Nat} {d : List (ByteArray × T)} {f : ByteArray} {y : T}
    (h : T.Own w B (.mk k n s la lc l da dc d)) (hy : y.Own w1 B1) (hb : Below w.heap.size w w1) (hB : w.heap.size ≤ B1) (hB0 : B ≤ B1)
    (hf : okLen f.size) (hl : okFar ((d.length + 1) * 96)) (hc : cap ≤ 9223372036854775807)
    (hrow : w2.ownsRow B 44 6 (.slice (some ⟨g, 0, none⟩) (d.length + 1) cap) (d.length + 1) (d.flatMap fcells ++ fcells (f, y))) (hg : w1.grownBy w2 (Value.slice da d.length dc).ownBlock) (hd : (Value.slice da d.length dc).ownBlock = some g ∨ w1.heap.size ≤ g) :
    T.Own w2 B (.mk k n s la lc l (some ⟨g, 0, none⟩) cap (d ++ [(f, y)])) := by
  obtain ⟨ok, owns, nodup⟩ := h
  have o1 := owns.below hb
  rw [rows_mk] at o1 nodup owns
  have hlt := owns_lt owns
  have hsub : (⟨28, 5, .slice la l.length lc, l.length, l.flatMap T.cells⟩ :: (l.flatMap T.rows ++ d.flatMap fun f => f.2.rows) : List Row).Sublist
      (⟨28, 5, .slice la l.length lc, l.length, l.flatMap T.cells⟩ :: ⟨44, 6, .slice da d.length dc, d.length, d.flatMap fcells⟩ :: (l.flatMap T.rows ++ d.flatMap fun f => f.2.rows)) :=
    (List.Sublist.cons _ (List.Sublist.refl _)).cons_cons _
  have hnd := nodup.sublist (blocks_sub hsub)
  have howd : ∀ g', (Value.slice da d.length dc).ownBlock = some g' → g' ∉ blocksOf (⟨28, 5, .slice la l.length lc, l.length, l.flatMap T.cells⟩ :: (l.flatMap T.rows ++ d.flatMap fun f => f.2.rows) : List Row) ∧ g' < w.heap.size := by
    intro g' hg'
    have hp : (⟨28, 5, .slice la l.length lc, l.length, l.flatMap T.cells⟩ :: ⟨44, 6, .slice da d.length dc, d.length, d.flatMap fcells⟩ :: (l.flatMap T.rows ++ d.flatMap fun f => f.2.rows) : List Row).Perm
        (⟨44, 6, .slice da d.length dc, d.length, d.flatMap fcells⟩ :: ⟨28, 5, .slice la l.length lc, l.length, l.flatMap T.cells⟩ :: (l.flatMap T.rows ++ d.flatMap fun f => f.2.rows)) := List.Perm.swap _ _ _
    have h1 := (hp.filterMap (fun r : Row => r.v.ownBlock)).nodup_iff.1 nodup
    rw [List.filterMap_cons] at h1
    simp only [hg'] at h1
    exact ⟨(List.nodup_cons.1 h1).1, (hlt g' (List.mem_filterMap.2 ⟨_, List.mem_cons_of_mem _ (List.mem_cons_self ..), hg'⟩)).2⟩
  have hrest0 : Owns w B (⟨28, 5, .slice la l.length lc, l.length, l.flatMap T.cells⟩ :: (l.flatMap T.rows ++ d.flatMap fun f => f.2.rows)) := fun r hr => owns r (hsub.subset hr)
  have hrest : Owns w1 B (⟨28, 5, .slice la l.length lc, l.length, l.flatMap T.cells⟩ :: (l.flatMap T.rows ++ d.flatMap fun f => f.2.rows)) := fun r hr => o1 r (hsub.subset hr)
  have hkeep : ∀ {R : List Row} {B' : Nat}, Owns w1 B' R → (∀ b ∈ blocksOf R, some b ≠ (Value.slice da d.length dc).ownBlock) → Owns w2 B' R := fun hR hn => hR.keep fun b hb => hg.block b (owns_lt hR b hb).2 (hn b hb)
  have hrest2 := hkeep hrest (fun b hb e => (howd b e.symm).1 hb)
  have hy2 := hkeep hy.owns (fun b hb e => by have := (howd b e.symm).2; have := (owns_lt hy.owns b hb).1; omega)
  have hgn : g ∉ blocksOf (⟨28, 5, .slice la l.length lc, l.length, l.flatMap T.cells⟩ :: (l.flatMap T.rows ++ d.flatMap fun f => f.2.rows)) := fun hc => by
    rcases hd with hd | hd
    · exact (howd g hd).1 hc
    · have := (owns_lt hrest g hc).2; omega
  have hgy : g ∉ blocksOf y.rows := fun hc => by
    rcases hd with hd | hd
    · have := (howd g hd).2; have := (owns_lt hy.owns g hc).1; omega
    · have := (owns_lt hy.owns g hc).2; omega
  have hall : (T.rows (.mk k n s la lc l (some ⟨g, 0, none⟩) cap (d ++ [(f, y)]))).Perm
      (⟨44, 6, .slice (some ⟨g, 0, none⟩) (d.length + 1) cap, d.length + 1, d.flatMap fcells ++ fcells (f, y)⟩ :: ((⟨28, 5, .slice la l.length lc, l.length, l.flatMap T.cells⟩ :: (l.flatMap T.rows ++ d.flatMap fun f => f.2.rows)) ++ y.rows)) := by
    rw [rows_mk]
    refine (List.Perm.swap _ _ _).trans ?_
    simp only [List.length_append, List.length_singleton, List.flatMap_append, List.flatMap_cons, List.flatMap_nil, List.append_nil, List.cons_append, List.append_assoc]
    exact List.Perm.refl _
  refine ⟨?_, ?_, ?_⟩
  · simp only [T.ok, T.okL_iff, T.okD_iff] at ok ⊢
    obtain ⟨q1, q2, q3, q4, q5, q6, q7, q8, q9, q10, q11⟩ := ok
    have hcap : d.length + 1 ≤ cap := by
      obtain ⟨_, h2⟩ := hrow
      rcases h2 with ⟨hv, _⟩ | ⟨g', cap', cur, hv, hb, hg, hkc, _⟩
      · cases hv
      · injection hv with _ _ e3; omega
    refine ⟨q1, q2, q3, q4, q5, q6, ⟨by simpa using hcap, hc⟩, by simpa using hl, by simp, q10, fun z hz => ?_⟩
    rcases List.mem_append.1 hz with hz | hz
    · exact q11 z hz
    · simp at hz; subst hz; exact ⟨hf, hy.ok⟩
  · intro r hr
    rcases List.mem_cons.1 (hall.mem_iff.1 hr) with rfl | hr
    · exact hrow
    · rcases List.mem_append.1 hr with hr | hr
      · exact hrest2 r hr
      · exact (hy2.base hB0) r hr
  · refine (hall.filterMap _).nodup_iff.2 ?_
    rw [List.filterMap_cons]
    simp only [Value.ownBlock]
    refine List.nodup_cons.2 ⟨fun hc => ?_, nodup_behind hrest0 hy.owns hB hnd hy.nodup⟩
    have hc2 : g ∈ blocksOf ((⟨28, 5, .slice la l.length lc, l.length, l.flatMap T.cells⟩ :: (l.flatMap T.rows ++ d.flatMap fun f => f.2.rows)) ++ y.rows) := hc
    rw [blocksOf_append] at hc2
    rcases List.mem_append.1 hc2 with hc | hc
    · exact hgn hc
    · exact hgy hc


/-- An element more, in a row that has grown or moved. -/
theorem own_addL {w w1 w2 : World} {B B1 : Nat} {k n : Int} {s : ByteArray} {la : Option Addr} {lc g cap : Nat} {l : List T} {da : Option Addr} {dc : Nat} {d : List (ByteArray × T)} {y : T}
    (h : T.Own w B (.mk k n s la lc l da dc d)) (hy : y.Own w1 B1) (hb : Below w.heap.size w w1) (hB : w.heap.size ≤ B1) (hB0 : B ≤ B1)
    (hl : okLen ((l.length + 1) * 80)) (hc : cap ≤ 9223372036854775807)
    (hrow : w2.ownsRow B 28 5 (.slice (some ⟨g, 0, none⟩) (l.length + 1) cap) (l.length + 1) (l.flatMap T.cells ++ y.cells)) (hg : w1.grownBy w2 (Value.slice la l.length lc).ownBlock) (hd : (Value.slice la l.length lc).ownBlock = some g ∨ w1.heap.size ≤ g) :
    T.Own w2 B (.mk k n s (some ⟨g, 0, none⟩) cap (l ++ [y]) da dc d) := by
  obtain ⟨ok, owns, nodup⟩ := h
  have o1 := owns.below hb
  rw [rows_mk] at o1 nodup owns
  have hlt := owns_lt owns
  have hsub : (⟨44, 6, .slice da d.length dc, d.length, d.flatMap fcells⟩ :: (l.flatMap T.rows ++ d.flatMap fun f => f.2.rows) : List Row).Sublist
      (⟨28, 5, .slice la l.length lc, l.length, l.flatMap T.cells⟩ :: ⟨44, 6, .slice da d.length dc, d.length, d.flatMap fcells⟩ :: (l.flatMap T.rows ++ d.flatMap fun f => f.2.rows)) :=
    List.Sublist.cons _ (List.Sublist.refl _)
  have hnd := nodup.sublist (blocks_sub hsub)
  have howd : ∀ g', (Value.slice la l.length lc).ownBlock = some g' → g' ∉ blocksOf (⟨44, 6, .slice da d.length dc, d.length, d.flatMap fcells⟩ :: (l.flatMap T.rows ++ d.flatMap fun f => f.2.rows) : List Row) ∧ g' < w.heap.size := by
    intro g' hg'
    have h1 := nodup
    unfold blocksOf at h1
    rw [List.filterMap_cons] at h1
    simp only [hg'] at h1
    exact ⟨(List.nodup_cons.1 h1).1, (hlt g' (List.mem_filterMap.2 ⟨_, List.mem_cons_self .., hg'⟩)).2⟩
  have hrest0 : Owns w B (⟨44, 6, .slice da d.length dc, d.length, d.flatMap fcells⟩ :: (l.flatMap T.rows ++ d.flatMap fun f => f.2.rows)) := fun r hr => owns r (hsub.subset hr)
  have hrest : Owns w1 B (⟨44, 6, .slice da d.length dc, d.length, d.flatMap fcells⟩ :: (l.flatMap T.rows ++ d.flatMap fun f => f.2.rows)) := fun r hr => o1 r (hsub.subset hr)
  have hkeep : ∀ {R : List Row} {B' : Nat}, Owns w1 B' R → (∀ b ∈ blocksOf R, some b ≠ (Value.slice la l.length lc).ownBlock) → Owns w2 B' R := fun hR hn => hR.keep fun b hb => hg.block b (owns_lt hR b hb).2 (hn b hb)
  have hrest2 := hkeep hrest (fun b hb e => (howd b e.symm).1 hb)
  have hy2 := hkeep hy.owns (fun b hb e => by have := (howd b e.symm).2; have := (owns_lt hy.owns b hb).1; omega)
  have hgn : g ∉ blocksOf (⟨44, 6, .slice da d.length dc, d.length, d.flatMap fcells⟩ :: (l.flatMap T.rows ++ d.flatMap fun f => f.2.rows)) := fun hc => by
    rcases hd with hd | hd
    · exact (howd g hd).1 hc
    · have := (owns_lt hrest g hc).2; omega
  have hgy : g ∉ blocksOf y.rows := fun hc => by
    rcases hd with hd | hd
    · have := (howd g hd).2; have := (owns_lt hy.owns g hc).1; omega
    · have := (owns_lt hy.owns g hc).2; omega
  have hall : (T.rows (.mk k n s (some ⟨g, 0, none⟩) cap (l ++ [y]) da dc d)).Perm
      (⟨28, 5, .slice (some ⟨g, 0, none⟩) (l.length + 1) cap, l.length + 1, l.flatMap T.cells ++ y.cells⟩ :: ((⟨44, 6, .slice da d.length dc, d.length, d.flatMap fcells⟩ :: (l.flatMap T.rows ++ d.flatMap fun f => f.2.rows)) ++ y.rows)) := by
    rw [rows_mk]
    simp only [List.length_append, List.length_singleton, List.flatMap_append, List.flatMap_cons, List.flatMap_nil, List.append_nil, List.cons_append, List.append_assoc]
    exact List.Perm.cons _ (List.Perm.cons _ (List.Perm.append_left _ List.perm_append_comm))
  refine ⟨?_, ?_, ?_⟩
  · simp only [T.ok, T.okL_iff, T.okD_iff] at ok ⊢
    obtain ⟨q1, q2, q3, q4, q5, q6, q7, q8, q9, q10, q11⟩ := ok
    have hcap : l.length + 1 ≤ cap := by
      obtain ⟨_, h2⟩ := hrow
      rcases h2 with ⟨hv, _⟩ | ⟨g', cap', cur, hv, hb, hg, hkc, _⟩
      · cases hv
      · injection hv with _ _ e3; omega
    refine ⟨q1, q2, q3, ⟨by simpa using hcap, hc⟩, by simpa using hl, by simp, q7, q8, q9, fun z hz => ?_, q11⟩
    rcases List.mem_append.1 hz with hz | hz
    · exact q10 z hz
    · simp at hz; subst hz; exact hy.ok
  · intro r hr
    rcases List.mem_cons.1 (hall.mem_iff.1 hr) with rfl | hr
    · exact hrow
    · rcases List.mem_append.1 hr with hr | hr
      · exact hrest2 r hr
      · exact (hy2.base hB0) r hr
  · refine (hall.filterMap _).nodup_iff.2 ?_
    rw [List.filterMap_cons]
    simp only [Value.ownBlock]
    refine List.nodup_cons.2 ⟨fun hc => ?_, nodup_behind hrest0 hy.owns hB hnd hy.nodup⟩
    have hc2 : g ∈ blocksOf ((⟨44, 6, .slice da d.length dc, d.length, d.flatMap fcells⟩ :: (l.flatMap T.rows ++ d.flatMap fun f => f.2.rows)) ++ y.rows) := hc
    rw [blocksOf_append] at hc2
    rcases List.mem_append.1 hc2 with hc | hc
    · exact hgn hc
    · exact hgy hc

theorem cap_of {w : World} {B : Nat} {e : TypeId} {c g n cap : Nat} {xs : List Value} (h : w.ownsRow B e c (.slice (some ⟨g, 0, none⟩) n cap) n xs) : cap ≤ 9223372036854775807 := by
  obtain ⟨_, h2⟩ := h
  rcases h2 with ⟨hv, _⟩ | ⟨g', cap', cur, hv, hb, hg, hkc, hm, _⟩
  · cases hv
  · injection hv with _ _ e3; unfold maxLen at hm; omega

theorem own_rowL {w : World} {B : Nat} {k n : Int} {s : ByteArray} {la : Option Addr} {lc : Nat} {l : List T} {da : Option Addr} {dc : Nat} {d : List (ByteArray × T)} (h : T.Own w B (.mk k n s la lc l da dc d)) :
    w.ownsRow B 28 5 (.slice la l.length lc) l.length (l.flatMap T.cells) := by have := h.owns; rw [rows_mk] at this; exact this.head
theorem own_rowD {w : World} {B : Nat} {k n : Int} {s : ByteArray} {la : Option Addr} {lc : Nat} {l : List T} {da : Option Addr} {dc : Nat} {d : List (ByteArray × T)} (h : T.Own w B (.mk k n s la lc l da dc d)) :
    w.ownsRow B 44 6 (.slice da d.length dc) d.length (d.flatMap fcells) := by have := h.owns; rw [rows_mk] at this; exact this.tail.head
end Go.Proofs.YtcpbdmgkeljkgaaGreatDoor
namespace Go.Proofs.YtcpbdmgkeljkgaaGreatDoor
open Go.RowKit
set_option maxRecDepth 100000

def zeroV : V := .mk 0 0 ⟨#[]⟩ [] []
def zeroT : T := .mk 0 0 ⟨#[]⟩ none 0 [] none 0 []
theorem zero_val : zeroT.val = zeroV := by simp [zeroT, zeroV, T.val_mk]
theorem zero_own (w : World) (B : Nat) : zeroT.Own w B := by
  refine ⟨by simp [zeroT, T.ok, T.okL, T.okD, okInt, okLen, okFar, ByteArray.size], fun r hr => ?_, by simp [zeroT, T.rows, T.rowsL, T.rowsD, blocksOf, Value.ownBlock]⟩
  simp [zeroT, T.rows, T.rowsL, T.rowsD] at hr
  rcases hr with rfl | rfl <;> exact World.ownsRow_nil _ _ _ _
def putD : List (ByteArray × V) → ByteArray → V → List (ByteArray × V)
  | [], s, y => [(s, y)]
  | (f, x) :: r, s, y => if f.toList == s.toList then (f, y) :: r else (f, x) :: putD r s y
def withV : V → ByteArray → V → V
  | .mk k n t l d, s, y => if k = 5 then .mk 5 n t l (putD d s y) else zeroV
theorem idxD_put (d : List (ByteArray × T)) (s : ByteArray) (y : V) : ∀ i : Nat, (idxD (d.map fun f => (f.1, f.2.val)) s i = -1 ∧ putD (d.map fun f => (f.1, f.2.val)) s y = (d.map fun f => (f.1, f.2.val)) ++ [(s, y)]) ∨
    (∃ (d1 d2 : List (ByteArray × T)) (f : ByteArray) (x : T), d = d1 ++ (f, x) :: d2 ∧ idxD (d.map fun f => (f.1, f.2.val)) s i = ((i + d1.length : Nat) : Int) ∧ putD (d.map fun f => (f.1, f.2.val)) s y = (d1.map fun f => (f.1, f.2.val)) ++ (f, y) :: (d2.map fun f => (f.1, f.2.val))) := by
  induction d with
  | nil => intro i; exact .inl ⟨rfl, rfl⟩
  | cons z r ih =>
    obtain ⟨f, x⟩ := z
    intro i
    simp only [List.map_cons, idxD, putD]
    by_cases h : (f.toList == s.toList) = true
    · exact .inr ⟨[], r, f, x, rfl, by simp [h], by simp [h]⟩
    · rw [if_neg h, if_neg h]
      rcases ih (i + 1) with ⟨h1, h2⟩ | ⟨d1, d2, f', x', h1, h2, h3⟩
      · exact .inl ⟨h1, by rw [h2]; rfl⟩
      · exact .inr ⟨(f, x) :: d1, d2, f', x', by rw [h1]; rfl, by rw [h2]; simp; omega, by rw [h3]; rfl⟩

/-- A call of a Go function, as one step of a region that draws. -/
theorem step_enter {P : Program} {ops : Array Oper} {o : Oper} {a : Act} {w : World} {K : Act → World → Prop} {Q : Exit → Act → World → Prop} {E : Prop} (hgd : o.guard = none) (f : FuncId) (args : Array Value)
    (hrun : (execOp a.eval o).run P w = .ok (.enter f args) w) (h : Calls P f args w fun e w' => ∃ v, e = .returned v ∧ K (a.put o.dst v) w') :
    if Region.wanted o (yielded ops a.tmps) = true then Oper.wp P o a w K Q else E := by
  have hw : Region.wanted o (yielded ops a.tmps) = true := by simp [Region.wanted, hgd]
  rw [if_pos hw]
  unfold Oper.wp
  rw [hrun, Oper.upon_enter]
  refine h.mono ?_
  rintro e w' ⟨v, rfl, hk⟩
  exact hk

/-- With yields a value in memory of its own. -/
def WithTo (v : V) (w : World) (e : Ending) (w' : World) : Prop := ∃ t' : T, e = .returned t'.arg ∧ t'.val = v ∧ t'.Own w' w.heap.size ∧ Below w.heap.size w w'
/-- The four boxes of With. -/
structure WithBox (w wr : World) (X : List Value) (g : Nat) (O : List Value) : Prop where
  below : Below w.heap.size w wr
  box2 : wr.heap[w.heap.size + 1]? = some (.cells X.toArray 28 (0, 0))
  box3 : wr.heap[w.heap.size + 2]? = some (.cells #[.int .i64 0, .int .i64 0, .string ⟨#[]⟩, .slice none 0 0, .slice none 0 0] 28 (0, 0))
  box4 : wr.heap[g]? = some (.cells O.toArray 28 (0, 0))
theorem WithBox.only {w wr w' : World} {X O : List Value} {g : Nat} {S : List Nat} (h : WithBox w wr X g O) (ho : Only S wr w') (hS : ∀ b ∈ S, w.heap.size + 3 ≤ b ∧ b ≠ g) : WithBox w w' X g O :=
  ⟨((Only.of_below (S := []) h.below).then_ ho (fun i hi => .inr (by have := hS i hi; omega))).below, keep_row ho h.box2 (fun hc => by have := hS _ hc; omega), keep_row ho h.box3 (fun hc => by have := hS _ hc; omega), keep_row ho h.box4 (fun hc => (hS _ hc).2 rfl)⟩
theorem WithBox.then_ {w wr w' : World} {X O : List Value} {g : Nat} (h : WithBox w wr X g O) (hb : Below wr.heap.size wr w') : WithBox w w' X g O := h.only (Only.of_below (S := []) hb) (by simp)

theorem Only.of_grow {w w' : World} {row : Option Nat} (h : w.grownBy w' row) : Only row.toList w w' := ⟨h.os, h.tape, h.output, h.size, fun k hk hn => h.block k hk (fun e => hn (by rw [← e]; simp))⟩
theorem WithBox.grown {w wr w' : World} {X O : List Value} {g : Nat} {row : Option Nat} (h : WithBox w wr X g O) (hg : wr.grownBy w' row) (hr : ∀ b, row = some b → w.heap.size + 3 ≤ b ∧ b ≠ g) : WithBox w w' X g O :=
  h.only (Only.of_grow hg) (fun b hb => hr b (by simpa using hb))
theorem WithBox.start {w w1 : World} {A : Obj} {X O : List Value} (b : Below (((w.alloc A).alloc (.cells X.toArray 28)).alloc (.cells #[.int .i64 0, .int .i64 0, .string ⟨#[]⟩, .slice none 0 0, .slice none 0 0] 28)).heap.size (((w.alloc A).alloc (.cells X.toArray 28)).alloc (.cells #[.int .i64 0, .int .i64 0, .string ⟨#[]⟩, .slice none 0 0, .slice none 0 0] 28)) w1) :
    WithBox w (w1.alloc (.cells O.toArray 28)) X w1.heap.size O :=
  ⟨below_then (below_then (below3 _ _ _ _) b) (below1 _ _), row_then (row_then (row_then (heap_alloc2_new _ _ _) (below1 _ _)) b) (below1 _ _), row_then (row_then (heap_alloc_at _ _ _ (by simp)) b) (below1 _ _), heap_alloc_new _ _⟩
end Go.Proofs.YtcpbdmgkeljkgaaGreatDoor
namespace Go.Proofs.YtcpbdmgkeljkgaaGreatDoor
open Go.RowKit
set_option maxRecDepth 100000

/-- Is a field's name another one? -/
def other (s : ByteArray) (f : ByteArray) : Bool := !(f.toList == s.toList)
def withoutV : V → ByteArray → V
  | .mk k n t l d, s => if k = 5 then .mk 5 n t l (d.filter fun f => other s f.1) else zeroV
end Go.Proofs.YtcpbdmgkeljkgaaGreatDoor
namespace Go.Proofs.YtcpbdmgkeljkgaaGreatDoor
open Go.RowKit
set_option maxRecDepth 100000

/-- The number that digits make behind another; -1, if one is no digit. -/
def digFrom : List Int → Int → Int
  | [], n => n
  | c :: r, n => if c < 48 ∨ 57 < c then -1 else digFrom r (10 * n + (c - 48))
/-- A part's bytes as numbers. -/
def bytesOf (s : ByteArray) : List Int := s.data.toList.map fun b => (b.toNat : Int)
/-- The place that a part is; -1, if it is none. -/
def placeN (s : ByteArray) : Int :=
  if bytesOf s = [] then -1 else if 9 < (bytesOf s).length then -1 else if (bytesOf s).head? = some 48 ∧ bytesOf s ≠ [48] then -1 else digFrom (bytesOf s) 0

theorem digFrom_lo : ∀ (l : List Int) (n : Int), -1 ≤ n → digFrom l n = -1 ∨ (0 ≤ n → n * 10 ^ l.length ≤ digFrom l n ∧ digFrom l n < (n + 1) * 10 ^ l.length ∧ ∀ c ∈ l, 48 ≤ c ∧ c ≤ 57) := by
  intro l
  induction l with
  | nil => intro n _; exact .inr fun _ => by simp [digFrom]; omega
  | cons c r ih =>
    intro n hn
    rw [digFrom]
    by_cases h : c < 48 ∨ 57 < c
    · rw [if_pos h]; exact .inl rfl
    · rw [if_neg h]
      by_cases h0 : 0 ≤ n
      · rcases ih (10 * n + (c - 48)) (by omega) with h1 | h1
        · exact .inl h1
        · refine .inr fun _ => ?_
          obtain ⟨h2, h3, h4⟩ := h1 (by omega)
          have hp : (0 : Int) < 10 ^ r.length := Int.pow_pos (by omega)
          have e1 : n * 10 ^ (r.length + 1) = (10 * n) * 10 ^ r.length := by rw [Int.pow_succ, Int.mul_comm (10 ^ r.length) 10, ← Int.mul_assoc, Int.mul_comm n 10]
          have e2 : (n + 1) * 10 ^ (r.length + 1) = (10 * (n + 1)) * 10 ^ r.length := by rw [Int.pow_succ, Int.mul_comm (10 ^ r.length) 10, ← Int.mul_assoc, Int.mul_comm (n + 1) 10]
          rw [List.length_cons, e1, e2]
          refine ⟨Int.le_trans (Int.mul_le_mul_of_nonneg_right (by omega) (by omega)) h2, Int.lt_of_lt_of_le h3 (Int.mul_le_mul_of_nonneg_right (by omega) (by omega)), fun x hx => ?_⟩
          rcases List.mem_cons.1 hx with rfl | hx
          · omega
          · exact h4 x hx
      · exact .inr fun h => absurd h h0
theorem digFrom_inj : ∀ (a b : List Int) (n m : Int), a.length = b.length → (∀ c ∈ a, 48 ≤ c ∧ c ≤ 57) → (∀ c ∈ b, 48 ≤ c ∧ c ≤ 57) → digFrom a n = digFrom b m → n = m ∧ a = b := by
  intro a
  induction a with
  | nil =>
    intro b n m hl _ _ h
    cases b with
    | nil => exact ⟨h, rfl⟩
    | cons => simp at hl
  | cons c r ih =>
    intro b n m hl ha hb h
    cases b with
    | nil => simp at hl
    | cons d t =>
      have hc := ha c (by simp)
      have hd := hb d (by simp)
      rw [digFrom, digFrom, if_neg (by omega), if_neg (by omega)] at h
      obtain ⟨h1, h2⟩ := ih t _ _ (by simpa using hl) (fun x hx => ha x (by simp [hx])) (fun x hx => hb x (by simp [hx])) h
      exact ⟨by omega, by rw [h2, show c = d by omega]⟩
theorem placeN_cases (s : ByteArray) : placeN s = -1 ∨ (0 ≤ placeN s ∧ placeN s < 10 ^ (bytesOf s).length ∧ placeN s = digFrom (bytesOf s) 0 ∧ bytesOf s ≠ [] ∧ (bytesOf s).length ≤ 9 ∧ (∀ c ∈ bytesOf s, 48 ≤ c ∧ c ≤ 57) ∧ (bytesOf s = [48] ∨ (10 : Int) ^ ((bytesOf s).length - 1) ≤ placeN s)) := by
  unfold placeN
  split
  · exact .inl rfl
  · rename_i h0
    split
    · exact .inl rfl
    · rename_i h9
      split
      · exact .inl rfl
      · rename_i h48
        rcases digFrom_lo (bytesOf s) 0 (by omega) with h | h
        · exact .inl h
        · obtain ⟨h1, h2, h3⟩ := h (by omega)
          refine .inr ⟨by omega, by simpa using h2, rfl, h0, by omega, h3, ?_⟩
          by_cases he : bytesOf s = [48]
          · exact .inl he
          · refine .inr ?_
            cases hb : bytesOf s with
            | nil => exact absurd hb h0
            | cons c r =>
              rw [hb] at h3 h48 he
              have hc := h3 c (by simp)
              have hc2 : c ≠ 48 := fun e => h48 ⟨by simp [e], he⟩
              rw [digFrom, if_neg (by omega)]
              rcases digFrom_lo r (10 * 0 + (c - 48)) (by omega) with h | h
              · have hh := h1
                rw [hb, digFrom, if_neg (by omega), h] at hh
                simp at hh
              · obtain ⟨h4, -, -⟩ := h (by omega)
                refine Int.le_trans ?_ h4
                simp only [List.length_cons, Nat.add_sub_cancel]
                have hp : (0 : Int) < 10 ^ r.length := Int.pow_pos (by omega)
                have := Int.mul_le_mul_of_nonneg_right (a := 1) (b := 10 * 0 + (c - 48)) (c := 10 ^ r.length) (by omega) (by omega)
                simpa using this
theorem placeN_bound (s : ByteArray) : -1 ≤ placeN s ∧ placeN s ≤ 999999999 := by
  rcases placeN_cases s with h | ⟨h1, h2, -, -, h5, -⟩
  · omega
  · have : (10 : Int) ^ (bytesOf s).length ≤ 10 ^ 9 := by
      have h : (10 : Nat) ^ (bytesOf s).length ≤ 10 ^ 9 := Nat.pow_le_pow_right (by omega) h5
      exact_mod_cast h
    omega
theorem bytesOf_inj {a b : ByteArray} (h : bytesOf a = bytesOf b) : a = b := by
  unfold bytesOf at h
  have h2 : a.data.toList = b.data.toList := by
    refine List.map_inj_right (f := fun b : UInt8 => (b.toNat : Int)) (fun x y e => ?_) |>.1 h
    have e' : (x.toNat : Int) = y.toNat := e
    exact UInt8.toNat.inj (by omega)
  obtain ⟨a⟩ := a
  obtain ⟨b⟩ := b
  simp at h2
  rw [h2]
/-- Two parts that are the same place are the same part. -/
theorem placeN_inj {a b : ByteArray} (h : placeN a = placeN b) (h0 : 0 ≤ placeN a) : a = b := by
  rcases placeN_cases a with ha | ⟨-, a2, a3, a4, a5, a6, a7⟩
  · omega
  · rcases placeN_cases b with hb | ⟨-, b2, b3, b4, b5, b6, b7⟩
    · omega
    · have hmono : ∀ i j : Nat, i ≤ j → (10 : Int) ^ i ≤ 10 ^ j := fun i j hij => by
        have h : (10 : Nat) ^ i ≤ 10 ^ j := Nat.pow_le_pow_right (by omega) hij
        exact_mod_cast h
      have l0 : 0 < (bytesOf a).length := List.length_pos_iff.2 a4
      have l1 : 0 < (bytesOf b).length := List.length_pos_iff.2 b4
      have hl : (bytesOf a).length = (bytesOf b).length := by
        rcases Nat.lt_trichotomy (bytesOf a).length (bytesOf b).length with hl | hl | hl
        · exfalso
          rcases b7 with b7 | b7
          · rw [b7] at hl; simp at hl; exact a4 hl
          · have := hmono (bytesOf a).length ((bytesOf b).length - 1) (by omega)
            exact absurd (Int.lt_of_lt_of_le a2 (Int.le_trans this b7)) (by rw [h]; exact Int.lt_irrefl _)
        · exact hl
        · exfalso
          rcases a7 with a7 | a7
          · rw [a7] at hl; simp at hl; exact b4 hl
          · have := hmono (bytesOf b).length ((bytesOf a).length - 1) (by omega)
            exact absurd (Int.lt_of_lt_of_le b2 (Int.le_trans this a7)) (by rw [h]; exact Int.lt_irrefl _)
      exact bytesOf_inj (digFrom_inj _ _ 0 0 hl a6 b6 (by rw [← a3, ← b3, h])).2

/-- What stands in a value at a part. -/
def childV : V → ByteArray → Option V
  | .mk k _ _ l d, p => if k = 5 then findD d p else if k = 6 then (if 0 ≤ placeN p then l[(placeN p).toNat]? else none) else none
def atV : V → List ByteArray → Option V
  | v, [] => some v
  | v, p :: r => match childV v p with
    | none => none
    | some x => atV x r
def kindV : V → Int
  | .mk k _ _ _ _ => k
def bareV : V := .mk 5 0 ⟨#[]⟩ [] []
def nullV : V := .mk 2 0 ⟨#[]⟩ [] []
/-- A value with x at the parts, or the error. -/
def setV : V → List ByteArray → V → Int × V
  | _, [], x => (0, x)
  | .mk k n s l d, p :: r, x =>
    if k = 5 then
      (if (setV ((findD d p).getD bareV) r x).1 = 0 then (0, .mk k n s l (putD d p (setV ((findD d p).getD bareV) r x).2)) else ((setV ((findD d p).getD bareV) r x).1, zeroV))
    else if k = 6 then
      (if placeN p < 0 then (41, zeroV)
      else if placeN p < l.length then
        (if (setV (l[(placeN p).toNat]?.getD bareV) r x).1 = 0 then (0, .mk k n s (l.set (placeN p).toNat (setV (l[(placeN p).toNat]?.getD bareV) r x).2) d) else ((setV (l[(placeN p).toNat]?.getD bareV) r x).1, zeroV))
      else if 100 < placeN p + 1 - l.length then (42, zeroV)
      else (if (setV bareV r x).1 = 0 then (0, .mk k n s (l ++ List.replicate ((placeN p).toNat - l.length) nullV ++ [(setV bareV r x).2]) d) else ((setV bareV r x).1, zeroV)))
    else (41, zeroV)
/-- A value without what stands at the parts. -/
def unsetV : V → List ByteArray → V
  | v, [] => v
  | .mk k n s l d, p :: r => match childV (.mk k n s l d) p with
    | none => .mk k n s l d
    | some y =>
      if k = 5 then (if r = [] then withoutV (.mk k n s l d) p else .mk k n s l (putD d p (unsetV y r)))
      else .mk k n s (l.set (placeN p).toNat (if r = [] then nullV else unsetV y r)) d
/-- Is the one row the beginning of the other one, or the other way round? -/
def startsP : List ByteArray → List ByteArray → Bool
  | [], _ => true
  | _ :: _, [] => true
  | a :: r, b :: t => (a.toList == b.toList) && startsP r t

theorem p_find_put (d : List (ByteArray × V)) (s : ByteArray) (y : V) : findD (putD d s y) s = some y := by
  induction d with
  | nil => rw [putD, findD, if_pos (by simp)]
  | cons z r ih =>
    obtain ⟨f, z⟩ := z
    rw [putD]
    split
    · rename_i h; rw [findD, if_pos h]
    · rename_i h; rw [findD, if_neg h, ih]
theorem p_find_put_other (d : List (ByteArray × V)) (s o : ByteArray) (y : V) (ho : ¬ o.toList = s.toList) : findD (putD d s y) o = findD d o := by
  induction d with
  | nil =>
    have h2 : ¬ (s.toList == o.toList) = true := by simp; exact fun e => ho e.symm
    simp only [putD, findD]
    rw [if_neg h2]
  | cons z r ih =>
    obtain ⟨f, z⟩ := z
    rw [putD]
    split
    · rename_i h
      have h1 : f.toList = s.toList := by simpa using h
      have h2 : ¬ (f.toList == o.toList) = true := by simp; exact fun e => ho (e.symm.trans h1)
      rw [findD, findD, if_neg h2, if_neg h2]
    · rw [findD, findD, ih]
theorem p_find_out (d : List (ByteArray × V)) (s : ByteArray) : findD (d.filter fun f => other s f.1) s = none := by
  induction d with
  | nil => rfl
  | cons z r ih =>
    obtain ⟨f, z⟩ := z
    rw [List.filter_cons]
    split
    · rename_i h
      have h1 : ¬ (f.toList == s.toList) = true := by simpa [other] using h
      rw [findD, if_neg h1, ih]
    · exact ih
theorem p_find_out_other (d : List (ByteArray × V)) (s o : ByteArray) (ho : ¬ o.toList = s.toList) : findD (d.filter fun f => other s f.1) o = findD d o := by
  induction d with
  | nil => rfl
  | cons z r ih =>
    obtain ⟨f, z⟩ := z
    rw [List.filter_cons]
    split
    · rw [findD, findD, ih]
    · rename_i h
      have h1 : f.toList = s.toList := by simpa [other] using h
      have h2 : ¬ (f.toList == o.toList) = true := by simp; exact fun e => ho (e.symm.trans h1)
      rw [findD, if_neg h2, ih]
theorem p_find_same (d : List (ByteArray × V)) (s o : ByteArray) (h : o.toList = s.toList) : findD d o = findD d s := by
  induction d with
  | nil => rfl
  | cons z r ih =>
    obtain ⟨f, z⟩ := z
    rw [findD, findD, h, ih]
theorem p_bytes_eq {s s' : ByteArray} (h : s.toList = s'.toList) : s = s' := by
  rw [Lib.toList_data, Lib.toList_data] at h
  obtain ⟨s⟩ := s
  obtain ⟨s'⟩ := s'
  simp at h
  rw [h]

theorem at_set : ∀ (p : List ByteArray) (v x s : V), setV v p x = (0, s) → atV s p = some x := by
  intro p
  induction p with
  | nil =>
    intro v x s h
    rw [setV] at h
    injection h with _ h
    rw [atV, h]
  | cons p r ih =>
    rintro ⟨k, n, t, l, d⟩ x s h
    rw [setV] at h
    by_cases h5 : k = 5
    · rw [if_pos h5] at h
      split at h
      · rename_i h0
        injection h with _ h
        subst h
        rw [atV, childV, if_pos h5, p_find_put]
        exact ih ((findD d p).getD bareV) x _ (by rw [← h0])
      · rename_i h0; injection h with h1 _; exact absurd h1 h0
    · rw [if_neg h5] at h
      by_cases h6 : k = 6
      · rw [if_pos h6] at h
        split at h
        · injection h with h _; cases h
        · rename_i hp
          split at h
          · rename_i hlt
            split at h
            · rename_i h0
              injection h with _ h
              subst h
              rw [atV, childV, if_neg h5, if_pos h6, if_pos (by omega), List.getElem?_set_self (by omega)]
              exact ih _ x _ (by rw [← h0])
            · rename_i h0; injection h with h1 _; exact absurd h1 h0
          · rename_i hlt
            split at h
            · injection h with h _; cases h
            · split at h
              · rename_i h0
                injection h with _ h
                subst h
                rw [atV, childV, if_neg h5, if_pos h6, if_pos (by omega), List.getElem?_append_right (by simp; omega)]
                rw [show (placeN p).toNat - (l ++ List.replicate ((placeN p).toNat - l.length) nullV).length = 0 by simp; omega]
                exact ih _ x _ (by rw [← h0])
              · rename_i h0; injection h with h1 _; exact absurd h1 h0
      · rw [if_neg h6] at h
        injection h with h _; cases h

theorem at_set_other : ∀ (p q : List ByteArray) (v x s y : V), setV v p x = (0, s) → startsP p q = false → atV v q = some y → atV s q = some y := by
  intro p
  induction p with
  | nil => intro q v x s y _ h; simp [startsP] at h
  | cons p r ih =>
    rintro (_ | ⟨q, t⟩) ⟨k, n, u, l, d⟩ x s y h hq hy
    · simp [startsP] at hq
    · rw [startsP, Bool.and_eq_false_iff] at hq
      rw [atV] at hy
      cases hc : childV (.mk k n u l d) q with
      | none => rw [hc] at hy; cases hy
      | some c =>
        rw [hc] at hy
        rw [setV] at h
        rw [childV] at hc
        by_cases h5 : k = 5
        · rw [if_pos h5] at h hc
          split at h
          · rename_i h0
            injection h with _ h
            subst h
            rw [atV, childV, if_pos h5]
            by_cases e : q.toList = p.toList
            · have e2 := p_bytes_eq e
              subst e2
              rw [p_find_put]
              simp only [beq_self_eq_true, false_or, reduceCtorEq] at hq
              refine ih t ((findD d q).getD bareV) x _ y (by rw [← h0]) hq ?_
              rw [hc]
              exact hy
            · rw [p_find_put_other _ _ _ _ e, hc]
              exact hy
          · rename_i h0; injection h with h1 _; exact absurd h1 h0
        · rw [if_neg h5] at h hc
          by_cases h6 : k = 6
          · rw [if_pos h6] at h hc
            split at hc
            · rename_i q0
              have hql : (placeN q).toNat < l.length := (List.getElem?_eq_some_iff.1 hc).1
              split at h
              · injection h with h _; cases h
              · rename_i hp
                split at h
                · rename_i hlt
                  split at h
                  · rename_i h0
                    injection h with _ h
                    subst h
                    rw [atV, childV, if_neg h5, if_pos h6, if_pos q0]
                    by_cases e : placeN p = placeN q
                    · have e2 := placeN_inj e (by omega)
                      subst e2
                      rw [List.getElem?_set_self (by omega)]
                      simp only [beq_self_eq_true, false_or, reduceCtorEq] at hq
                      refine ih t _ x _ y (by rw [← h0]) hq ?_
                      rw [hc]
                      exact hy
                    · rw [List.getElem?_set_ne (by omega), hc]
                      exact hy
                  · rename_i h0; injection h with h1 _; exact absurd h1 h0
                · rename_i hlt
                  split at h
                  · injection h with h _; cases h
                  · split at h
                    · rename_i h0
                      injection h with _ h
                      subst h
                      rw [atV, childV, if_neg h5, if_pos h6, if_pos q0, List.append_assoc, List.getElem?_append_left hql, hc]
                      exact hy
                    · rename_i h0; injection h with h1 _; exact absurd h1 h0
            · cases hc
          · rw [if_neg h6] at h
            injection h with h _; cases h

theorem at_unset : ∀ (p : List ByteArray) (v : V), p ≠ [] → atV (unsetV v p) p = none ∨ ∃ x, atV (unsetV v p) p = some x ∧ kindV x = 2 := by
  intro p
  induction p with
  | nil => intro v h; exact absurd rfl h
  | cons p r ih =>
    rintro ⟨k, n, u, l, d⟩ -
    rw [unsetV]
    cases hc : childV (.mk k n u l d) p with
    | none => left; rw [atV, hc]
    | some y =>
      simp only
      rw [childV] at hc
      by_cases h5 : k = 5
      · rw [if_pos h5] at hc ⊢
        by_cases hr : r = []
        · rw [if_pos hr, withoutV, if_pos h5, atV, childV, if_pos rfl, p_find_out]
          exact .inl rfl
        · rw [if_neg hr, atV, childV, if_pos h5, p_find_put]
          exact ih y hr
      · rw [if_neg h5] at hc ⊢
        split at hc
        · rename_i h6
          split at hc
          · rename_i h0
            have hl := (List.getElem?_eq_some_iff.1 hc).1
            rw [atV, childV, if_neg h5, if_pos h6, if_pos h0, List.getElem?_set_self (by omega)]
            simp only
            by_cases hr : r = []
            · subst hr
              rw [if_pos rfl, atV]
              exact .inr ⟨_, rfl, rfl⟩
            · rw [if_neg hr]
              exact ih y hr
          · cases hc
        · cases hc

theorem at_unset_other : ∀ (p q : List ByteArray) (v : V), startsP p q = false → atV (unsetV v p) q = atV v q := by
  intro p
  induction p with
  | nil => intro q v h; simp [startsP] at h
  | cons p r ih =>
    rintro (_ | ⟨q, t⟩) ⟨k, n, u, l, d⟩ hq
    · simp [startsP] at hq
    · rw [startsP, Bool.and_eq_false_iff] at hq
      rw [unsetV]
      cases hc : childV (.mk k n u l d) p with
      | none => rfl
      | some y =>
        simp only
        rw [childV] at hc
        by_cases h5 : k = 5
        · rw [if_pos h5] at hc ⊢
          by_cases e : q.toList = p.toList
          · have e2 := p_bytes_eq e
            subst e2
            simp only [beq_self_eq_true, false_or, reduceCtorEq] at hq
            have hr : r ≠ [] := by rintro rfl; simp [startsP] at hq
            rw [if_neg hr, atV, atV, childV, if_pos h5, p_find_put, childV, if_pos h5, hc]
            exact ih t y hq
          · by_cases hr : r = []
            · rw [if_pos hr, withoutV, if_pos h5, atV, atV, childV, if_pos rfl, p_find_out_other _ _ _ e, childV, if_pos h5]
            · rw [if_neg hr, atV, atV, childV, if_pos h5, p_find_put_other _ _ _ _ e, childV, if_pos h5]
        · rw [if_neg h5] at hc ⊢
          split at hc
          · rename_i h6
            split at hc
            · rename_i h0
              have hl := (List.getElem?_eq_some_iff.1 hc).1
              rw [atV, atV, childV, if_neg h5, if_pos h6, childV, if_neg h5, if_pos h6]
              by_cases q0 : 0 ≤ placeN q
              · rw [if_pos q0, if_pos q0]
                by_cases e : placeN p = placeN q
                · have e2 := placeN_inj e (by omega)
                  subst e2
                  simp only [beq_self_eq_true, false_or, reduceCtorEq] at hq
                  have hr : r ≠ [] := by rintro rfl; simp [startsP] at hq
                  rw [if_neg hr, List.getElem?_set_self (by omega), hc]
                  exact ih t y hq
                · rw [List.getElem?_set_ne (by omega)]
              · rw [if_neg q0, if_neg q0]
            · cases hc
          · cases hc

mutual
/-- The values to which parts lead. -/
def metV : V → List ByteArray → List V
  | .mk k n s l d, [] => [.mk k n s l d]
  | .mk k _ _ l d, p :: r => if k = 6 then metEach l (p :: r) ++ (if placeN p < l.length then metNth l (placeN p) r else []) else if k = 5 then metFind d p r else [zeroV]
def metEach : List V → List ByteArray → List V
  | [], _ => []
  | x :: t, ps => (if kindV x = 5 then metV x ps else []) ++ metEach t ps
def metNth : List V → Int → List ByteArray → List V
  | [], _, _ => []
  | x :: t, i, r => if i = 0 then metV x r else metNth t (i - 1) r
def metFind : List (ByteArray × V) → ByteArray → List ByteArray → List V
  | [], _, _ => [zeroV]
  | (f, x) :: t, p, r => if f.toList == p.toList then metV x r else metFind t p r
end
theorem metNth_get (r : List ByteArray) : ∀ (l : List V) (i : Int), 0 ≤ i → metNth l i r = match l[i.toNat]? with | some x => metV x r | none => [] := by
  intro l
  induction l with
  | nil => intro i _; simp [metNth]
  | cons x t ih =>
    intro i hi
    rw [metNth]
    by_cases h : i = 0
    · subst h; simp
    · rw [if_neg h, ih _ (by omega)]
      obtain ⟨j, rfl⟩ : ∃ j : Nat, i = j + 1 := ⟨(i - 1).toNat, by omega⟩
      have e1 : ((j : Int) + 1 - 1).toNat = j := by omega
      have e2 : ((j : Int) + 1).toNat = j + 1 := by omega
      rw [e1, e2, List.getElem?_cons_succ]
theorem metNth_neg (r : List ByteArray) : ∀ (l : List V) (i : Int), i < 0 → metNth l i r = [] := by
  intro l
  induction l with
  | nil => intro i _; rw [metNth]
  | cons x t ih => intro i hi; rw [metNth, if_neg (by omega), ih _ (by omega)]
theorem metFind_find (p : ByteArray) (r : List ByteArray) : ∀ (d : List (ByteArray × V)), metFind d p r = match findD d p with | some x => metV x r | none => [zeroV] := by
  intro d
  induction d with
  | nil => rw [metFind, findD]
  | cons z t ih =>
    obtain ⟨f, x⟩ := z
    rw [metFind, findD]
    split
    · rfl
    · exact ih
theorem met_at : ∀ (p : List ByteArray) (v x : V), atV v p = some x → x ∈ metV v p := by
  intro p
  induction p with
  | nil =>
    rintro ⟨k, n, s, l, d⟩ x h
    rw [atV] at h
    injection h with h
    rw [metV, h]
    simp
  | cons p r ih =>
    rintro ⟨k, n, s, l, d⟩ x h
    rw [atV, childV] at h
    rw [metV]
    by_cases h5 : k = 5
    · rw [if_neg (by omega), if_pos h5, metFind_find]
      rw [if_pos h5] at h
      cases hf : findD d p with
      | none => rw [hf] at h; cases h
      | some y => rw [hf] at h; exact ih y x h
    · rw [if_neg h5] at h
      by_cases h6 : k = 6
      · rw [if_pos h6] at h ⊢
        by_cases h0 : 0 ≤ placeN p
        · rw [if_pos h0] at h
          cases hf : l[(placeN p).toNat]? with
          | none => rw [hf] at h; cases h
          | some y =>
            rw [hf] at h
            have hl := (List.getElem?_eq_some_iff.1 hf).1
            rw [if_pos (by omega), metNth_get _ _ _ h0, hf]
            exact List.mem_append_right _ (ih y x h)
        · rw [if_neg h0] at h; cases h
      · rw [if_neg h6] at h; cases h
/-- One goes on through documents alone. -/
def goneV : V → List ByteArray → V
  | v, [] => v
  | v, p :: r => goneV ((getV v p).getD zeroV) r
/-- Has a list been met on the way? -/
def listMet : V → List ByteArray → Bool
  | _, [] => false
  | v, p :: r => kindV v == 6 || listMet ((getV v p).getD zeroV) r
theorem gone_zero : ∀ p : List ByteArray, goneV zeroV p = zeroV := by
  intro p
  induction p with
  | nil => rfl
  | cons p r ih => rw [goneV, show getV zeroV p = none by simp [zeroV, getV]]; exact ih
theorem met_gone : ∀ (p : List ByteArray) (v : V), listMet v p = false → metV v p = [goneV v p] := by
  intro p
  induction p with
  | nil => rintro ⟨k, n, s, l, d⟩ _; rw [metV, goneV]
  | cons p r ih =>
    rintro ⟨k, n, s, l, d⟩ h
    rw [listMet, Bool.or_eq_false_iff] at h
    obtain ⟨h6, h⟩ := h
    have h6' : k ≠ 6 := by simpa [kindV] using h6
    rw [metV, if_neg h6', goneV]
    rw [getV] at h ⊢
    by_cases h5 : k = 5
    · rw [if_pos h5] at h ⊢
      rw [if_pos h5, metFind_find]
      cases hf : findD d p with
      | none =>
        simp only [Option.getD_none]
        rw [gone_zero]
      | some y =>
        rw [hf] at h
        exact ih y h
    · rw [if_neg h5, if_neg h5]
      simp only [Option.getD_none]
      rw [gone_zero]

def missV : V → Bool
  | .mk k n s l d => k == 0 && (n == 0 && (s.toList == [] && (l.length == 0 && d.length == 0)))
mutual
/-- The one value to which parts lead. -/
def pickV : V → List ByteArray → V
  | .mk k n s l d, [] => .mk k n s l d
  | .mk k _ _ l d, p :: r => if k = 5 then pickFind d p r else if k = 6 then .mk 6 0 ⟨#[]⟩ (pickEach l (p :: r)) [] else zeroV
def pickEach : List V → List ByteArray → List V
  | [], _ => []
  | x :: t, ps => (if kindV x = 5 ∨ kindV x = 6 then (if missV (pickV x ps) then [] else [pickV x ps]) else []) ++ pickEach t ps
def pickFind : List (ByteArray × V) → ByteArray → List ByteArray → V
  | [], _, _ => zeroV
  | (f, x) :: t, p, r => if f.toList == p.toList then pickV x r else pickFind t p r
end
theorem pickFind_find (p : ByteArray) (r : List ByteArray) : ∀ (d : List (ByteArray × V)), pickFind d p r = match findD d p with | some x => pickV x r | none => zeroV := by
  intro d
  induction d with
  | nil => rw [pickFind, findD]
  | cons z t ih =>
    obtain ⟨f, x⟩ := z
    rw [pickFind, findD]
    split
    · rfl
    · exact ih
end Go.Proofs.YtcpbdmgkeljkgaaGreatDoor
namespace Go.Proofs.YtcpbdmgkeljkgaaGreatDoor
open Go.RowKit
set_option maxRecDepth 100000

/-- A row of texts lies there. -/
def InS (w : World) (a : Option Addr) (l : List ByteArray) : Prop := ∀ (i : Nat) (x : ByteArray), l[i]? = some x → ∃ b o, a = some ⟨b, o, none⟩ ∧ w.cell? ⟨b, o + i, none⟩ = some (.string x)
theorem InS.then_ {w w' : World} {a : Option Addr} {l : List ByteArray} (h : InS w a l) (g : Below w.heap.size w w') : InS w' a l := fun i x hx => by
  obtain ⟨b, o, ha, hc⟩ := h i x hx
  exact ⟨b, o, ha, (g.cell (cell_lt hc)).trans hc⟩
theorem InS.drew' {w : World} {a : Option Addr} {l : List ByteArray} (h : InS w a l) : InS w.drew a l := h
theorem InS.nil (w : World) (a : Option Addr) : InS w a [] := fun i x h => by simp at h
/-- A slice of texts: parts of a path. -/
structure Parts (w : World) (a : Option Addr) (c : Nat) (l : List ByteArray) : Prop where
  in_ : InS w a l
  cap : l.length ≤ c ∧ c ≤ 9223372036854775807
  ok : ∀ x ∈ l, okLen x.size
theorem Parts.then_ {w w' : World} {a : Option Addr} {c : Nat} {l : List ByteArray} (h : Parts w a c l) (g : Below w.heap.size w w') : Parts w' a c l := ⟨h.in_.then_ g, h.cap, h.ok⟩
theorem Parts.drew' {w : World} {a : Option Addr} {c : Nat} {l : List ByteArray} (h : Parts w a c l) : Parts w.drew a c l := ⟨h.in_, h.cap, h.ok⟩
theorem Parts.head {w : World} {a : Option Addr} {c : Nat} {p : ByteArray} {r : List ByteArray} (h : Parts w a c (p :: r)) : ∃ b o, a = some ⟨b, o, none⟩ ∧ w.cell? ⟨b, o, none⟩ = some (.string p) ∧ okLen p.size := by
  obtain ⟨b, o, ha, hc⟩ := h.in_ 0 p rfl
  exact ⟨b, o, ha, hc, h.ok p (by simp)⟩
theorem Parts.tail {w : World} {b o : Nat} {c : Nat} {p : ByteArray} {r : List ByteArray} (h : Parts w (some ⟨b, o, none⟩) c (p :: r)) : Parts w (some ⟨b, o + 1, none⟩) (c - 1) r := by
  have hc : r.length + 1 ≤ c := h.cap.1
  have hc2 := h.cap.2
  refine ⟨fun i x hx => ?_, ⟨by omega, by omega⟩, fun x hx => h.ok x (by simp [hx])⟩
  obtain ⟨b', o', e, hcell⟩ := h.in_ (i + 1) x (by simpa using hx)
  injection e with e
  injection e with e1 e2
  subst e1 e2
  exact ⟨b, o + 1, rfl, by rw [Nat.add_assoc, Nat.add_comm 1 i]; exact hcell⟩
theorem Parts.last {w : World} {a : Option Addr} {p : ByteArray} {r : List ByteArray} (h : Parts w a 1 (p :: r)) (a' : Option Addr) : r = [] ∧ Parts w a' 0 r := by
  have hc : r.length + 1 ≤ 1 := h.cap.1
  have h0 : r = [] := List.eq_nil_of_length_eq_zero (by omega)
  exact ⟨h0, by rw [h0]; exact ⟨InS.nil _ _, by simp, by simp⟩⟩
theorem Parts.len {w : World} {a : Option Addr} {c : Nat} {l : List ByteArray} (h : Parts w a c l) : l.length ≤ 9223372036854775807 := Nat.le_trans h.cap.1 h.cap.2

/-- Where in a value a part leads to. -/
def standV : V → ByteArray → Int
  | .mk k _ _ l d, p => if k = 5 then idxD d p 0 else if k = 6 then (if placeN p < l.length then placeN p else -1) else -1
/-- What stands there. -/
def kidT : T → Nat → Option T
  | .mk k _ _ _ _ l _ _ d, j => if k = 5 then (d[j]?).map (·.2) else l[j]?
theorem stand_child (t : T) (p : ByteArray) : (standV t.val p = -1 ∧ childV t.val p = none) ∨ ∃ (j : Nat) (x : T), standV t.val p = (j : Int) ∧ childV t.val p = some x.val ∧ kidT t j = some x := by
  obtain ⟨k, n, s, la, lc, l, da, dc, d⟩ := t
  rw [T.val_mk, standV, childV]
  by_cases h5 : k = 5
  · rw [if_pos h5, if_pos h5]
    rcases idxD_find (d.map fun f => (f.1, f.2.val)) p 0 with h | ⟨j, x, h1, h2, h3⟩
    · exact .inl h
    · rw [List.getElem?_map, Option.map_eq_some_iff] at h2
      obtain ⟨y, hy, rfl⟩ := h2
      exact .inr ⟨j, y.2, by rw [h1]; simp, h3, by rw [kidT, if_pos h5, hy]; rfl⟩
  · rw [if_neg h5, if_neg h5]
    by_cases h6 : k = 6
    · rw [if_pos h6, if_pos h6]
      have hb := placeN_bound p
      by_cases h0 : 0 ≤ placeN p
      · rw [if_pos h0]
        by_cases hl : placeN p < (l.map T.val).length
        · rw [if_pos hl]
          rw [List.length_map] at hl
          have hx : l[(placeN p).toNat]? = some (l[(placeN p).toNat]'(by omega)) := List.getElem?_eq_getElem (by omega)
          exact .inr ⟨(placeN p).toNat, _, by omega, by rw [List.getElem?_map, hx]; rfl, by rw [kidT, if_neg h5]; exact hx⟩
        · rw [if_neg hl]
          rw [List.length_map] at hl
          exact .inl ⟨rfl, by rw [List.getElem?_map, List.getElem?_eq_none (by omega)]; rfl⟩
      · rw [if_neg h0]
        refine .inl ⟨?_, rfl⟩
        split <;> omega
    · rw [if_neg h6, if_neg h6]; exact .inl ⟨rfl, rfl⟩
theorem kid_kind {t x : T} {p : ByteArray} {j : Nat} (h1 : standV t.val p = (j : Int)) (_h2 : kidT t j = some x) : kindV t.val = 5 ∨ kindV t.val = 6 := by
  obtain ⟨k, n, s, la, lc, l, da, dc, d⟩ := t
  rw [T.val_mk, standV] at h1
  rw [T.val_mk, kindV]
  by_cases h5 : k = 5
  · exact .inl h5
  · rw [if_neg h5] at h1
    by_cases h6 : k = 6
    · exact .inr h6
    · rw [if_neg h6] at h1; omega
theorem kid_in {w : World} {t x : T} {j : Nat} (h : t.In w) (hk : kidT t j = some x) : x.In w := by
  obtain ⟨k, n, s, la, lc, l, da, dc, d⟩ := t
  obtain ⟨hl, hd⟩ := h.parts
  rw [kidT] at hk
  split at hk
  · rw [Option.map_eq_some_iff] at hk
    obtain ⟨y, hy, rfl⟩ := hk
    obtain ⟨_, _, _, _, h1⟩ := hd.elem hy
    exact h1
  · obtain ⟨_, _, _, _, h1⟩ := hl.elem hk
    exact h1
theorem kid_ok {t x : T} {j : Nat} (h : t.ok) (hk : kidT t j = some x) : x.ok := by
  obtain ⟨k, n, s, la, lc, l, da, dc, d⟩ := t
  obtain ⟨-, -, -, -, -, -, -, -, -, okl, okd⟩ := h.parts
  rw [kidT] at hk
  split at hk
  · rw [Option.map_eq_some_iff] at hk
    obtain ⟨y, hy, rfl⟩ := hk
    exact (okd y (List.mem_of_getElem? hy)).2
  · exact okl x (List.mem_of_getElem? hk)
end Go.Proofs.YtcpbdmgkeljkgaaGreatDoor
namespace Go.Proofs.YtcpbdmgkeljkgaaGreatDoor
open Go.RowKit
set_option maxRecDepth 100000

theorem bytesOf_get (s : ByteArray) (k : Nat) (h : k < s.size) : (bytesOf s)[k]? = some ((s[k].toNat : Nat) : Int) := by
  unfold bytesOf
  rw [List.getElem?_map, Array.getElem?_toList, Array.getElem?_eq_getElem (by exact h)]
  rfl
theorem bytesOf_len (s : ByteArray) : (bytesOf s).length = s.size := by rw [bytesOf, List.length_map, Array.length_toList]; rfl
theorem digFrom_step {s : ByteArray} {k : Nat} (h : k < s.size) (n : Int) : digFrom ((bytesOf s).drop k) n = if ((s[k].toNat : Nat) : Int) < 48 ∨ 57 < ((s[k].toNat : Nat) : Int) then -1 else digFrom ((bytesOf s).drop (k + 1)) (10 * n + (((s[k].toNat : Nat) : Int) - 48)) := by
  have h1 := bytesOf_get s k h
  obtain ⟨h2, h3⟩ := List.getElem?_eq_some_iff.1 h1
  rw [List.drop_eq_getElem_cons h2, digFrom, h3]
theorem bytesOf_nil {s : ByteArray} : bytesOf s = [] ↔ s.toList = [] := by
  rw [Lib.toList_data]; simp [bytesOf]
theorem place_empty {s : ByteArray} (h : s.toList = []) : placeN s = -1 := by rw [placeN, if_pos (bytesOf_nil.2 h)]
theorem place_long {s : ByteArray} (h : 9 < s.size) : placeN s = -1 := by
  rw [placeN]
  split
  · rfl
  · rw [if_pos (by rw [bytesOf_len]; exact h)]
theorem one_nought {s : ByteArray} : bytesOf s = [48] ↔ s.toList = [48] := by
  rw [Lib.toList_data]
  unfold bytesOf
  constructor
  · intro h
    rw [List.map_eq_singleton_iff] at h
    obtain ⟨a, h1, h2⟩ := h
    rw [h1]
    have : a = 48 := UInt8.toNat.inj (by have h3 : (a.toNat : Int) = 48 := h2; have : (48 : UInt8).toNat = 48 := rfl; omega)
    rw [this]
  · intro h; rw [h]; rfl
theorem head_of {s : ByteArray} (h : 0 < s.size) : (bytesOf s).head? = some ((s[0].toNat : Nat) : Int) := by
  rw [List.head?_eq_getElem?]; exact bytesOf_get s 0 h
theorem place_nought {s : ByteArray} (h : 0 < s.size) (h0 : ((s[0].toNat : Nat) : Int) = 48) (hn : (!s.toList == [48]) = true) : placeN s = -1 := by
  rw [placeN]
  split
  · rfl
  · split
    · rfl
    · rw [if_pos ⟨by rw [head_of h, h0], fun e => by rw [one_nought.1 e] at hn; simp at hn⟩]
theorem place_digits {s : ByteArray} (h : 0 < s.size) (h9 : s.size ≤ 9) (hn : (s[0].toNat : Int) = 48 → s.toList = [48]) : placeN s = digFrom ((bytesOf s).drop 0) 0 := by
  rw [placeN, if_neg (fun e => by have := bytesOf_len s; rw [e] at this; simp at this; omega), if_neg (by rw [bytesOf_len]; omega), if_neg]
  · rfl
  · rintro ⟨h1, h2⟩
    rw [head_of h] at h1
    injection h1 with h1
    exact h2 (one_nought.2 (hn h1))

theorem size_pos {s : ByteArray} (h : ¬ s.toList = []) : 0 < s.size := by
  rcases Nat.eq_zero_or_pos s.size with h0 | h0
  · exact absurd (bytesOf_nil.1 (List.eq_nil_of_length_eq_zero (by rw [bytesOf_len]; exact h0))) h
  · exact h0
/-- At a round's head: so many digits have been read, and make that number. -/
def DigRel (s : ByteArray) (k : Nat) (m : Int) : Prop := k ≤ s.size ∧ 0 ≤ m ∧ m < 10 ^ k ∧ placeN s = digFrom ((bytesOf s).drop k) m
theorem dig_bad {s : ByteArray} {k : Nat} {m : Int} (h : DigRel s k m) (hk : k < s.size) (hb : ((s[k].toNat : Nat) : Int) < 48 ∨ 57 < ((s[k].toNat : Nat) : Int)) : placeN s = -1 := by
  rw [h.2.2.2, digFrom_step hk, if_pos hb]
theorem dig_next {s : ByteArray} {k : Nat} {m : Int} (h : DigRel s k m) (hk : k < s.size) (h1 : 48 ≤ ((s[k].toNat : Nat) : Int)) (h2 : ((s[k].toNat : Nat) : Int) ≤ 57) : DigRel s (k + 1) (10 * m + (((s[k].toNat : Nat) : Int) - 48)) := by
  obtain ⟨h3, h4, h5, h6⟩ := h
  refine ⟨by omega, by omega, ?_, by rw [h6, digFrom_step hk, if_neg (by omega)]⟩
  rw [Int.pow_succ]
  omega
theorem dig_bound {s : ByteArray} {k : Nat} {m : Int} (h : DigRel s k m) (h9 : s.size ≤ 9) : m < 1000000000 := by
  have h1 : (10 : Nat) ^ k ≤ 10 ^ 9 := Nat.pow_le_pow_right (by omega) (by have := h.1; omega)
  have h2 : (10 : Int) ^ k ≤ 10 ^ 9 := by exact_mod_cast h1
  have := h.2.2.1
  omega
theorem dig_done {s : ByteArray} {k : Nat} {m : Int} (h : DigRel s k m) (hk : ¬ k < s.size) : placeN s = m := by
  rw [h.2.2.2, List.drop_eq_nil_of_le (by rw [bytesOf_len]; omega), digFrom]

theorem nought_of {s : ByteArray} (h1 : ¬ s.toList = []) (h2 : (s.size : Int) ≤ 9) (h3 : (s.toList.isEmpty = true ∨ 9 < (s.size : Int)) ∨ (!s.toList == [48]) = true) : (!s.toList == [48]) = true := by
  rcases h3 with (h | h) | h
  · exact absurd (by simpa using h) h1
  · omega
  · exact h
set_option maxHeartbeats 2000000 in
theorem place_any_ (s : ByteArray) (w : World) : Calls Tryz.prog 267 #[.string s] w fun e w' => e = .returned (.int .i64 (placeN s)) ∧ w' = w := by
  have HP := Lib.hid (fun h : ¬ s.toList = [] => size_pos h)
  go_enter Tryz.func267, Tryz.ntmps267
  go_wp2_with fail
  · go_ret
    exact ⟨ret_int (by rw [place_empty (by assumption)]), rfl⟩
  · go_ret
    exact ⟨ret_int (by rw [place_nought (by assumption) (by assumption) (nought_of (by assumption) (by assumption) (by assumption))]), rfl⟩
  · have h0 : DigRel s 0 0 := ⟨by omega, by omega, by simp, place_digits (by assumption) (by have := ‹(s.size : Int) ≤ 9›; omega) (fun _ => by simp_all)⟩
    have h9 : s.size ≤ 9 := by have := ‹(s.size : Int) ≤ 9›; omega
    have H0 := Lib.hid h0
    rename_i q1 q2 q3 q4 q5 q6 q7
    clear q1 q2 q4 q5 h0
    go_loopw [3, 4, 23] (fun s3 _ s23 wr => ∃ (k : Nat) (m : Int), s3 = .int .i64 m ∧ s23 = .int .i64 k ∧ wr = w ∧ DigRel s k m) (fun _ _ s23 _ => s.size - (intOf s23).toNat)
    case atStart => exact ⟨0, 0, rfl, rfl, rfl, H0.out⟩
    case round =>
      obtain ⟨k, m, rfl, rfl, rfl, hR⟩ := hrel
      have hm := dig_bound hR h9
      have hm0 := hR.2.1
      have HR := Lib.hid hR
      clear hR
      by_cases hk : k < s.size
      · go_wp2_with fail
        · go_ret
          exact ⟨ret_int (by rw [dig_bad HR.out hk (by assumption)]), rfl⟩
        · have q := ‹48 ≤ ((s[k].toNat : Nat) : Int) ∧ ((s[k].toNat : Nat) : Int) ≤ 57›
          go_roundw
          case rel => exact ⟨k + 1, 10 * m + (((s[k].toNat : Nat) : Int) - 48), by go_num, by go_num, trivial, dig_next HR.out hk q.1 q.2⟩
          case measure => simp [intOf]; omega
        · go_ret
          exact ⟨ret_int (by rw [dig_bad HR.out hk (.inl (by assumption))]), rfl⟩
      · go_wp2_with fail
        go_ret
        exact ⟨ret_int (by rw [dig_done HR.out hk]), rfl⟩
  · exfalso
    have h1 := ‹s.toList.isEmpty = true ∨ 9 < (s.size : Int)›
    simp_all
    omega
  · have h0 : DigRel s 0 0 := ⟨by omega, by omega, by simp, place_digits (by assumption) (by have := ‹(s.size : Int) ≤ 9›; omega) (fun h => absurd h (by assumption))⟩
    have h9 : s.size ≤ 9 := by have := ‹(s.size : Int) ≤ 9›; omega
    have H0 := Lib.hid h0
    rename_i q1 q2 q3 q4 q5 q6 q7
    clear q1 q2 q4 q5 h0
    go_loopw [3, 4, 23] (fun s3 _ s23 wr => ∃ (k : Nat) (m : Int), s3 = .int .i64 m ∧ s23 = .int .i64 k ∧ wr = w ∧ DigRel s k m) (fun _ _ s23 _ => s.size - (intOf s23).toNat)
    case atStart => exact ⟨0, 0, rfl, rfl, rfl, H0.out⟩
    case round =>
      obtain ⟨k, m, rfl, rfl, rfl, hR⟩ := hrel
      have hm := dig_bound hR h9
      have hm0 := hR.2.1
      have HR := Lib.hid hR
      clear hR
      by_cases hk : k < s.size
      · go_wp2_with fail
        · go_ret
          exact ⟨ret_int (by rw [dig_bad HR.out hk (by assumption)]), rfl⟩
        · have q := ‹48 ≤ ((s[k].toNat : Nat) : Int) ∧ ((s[k].toNat : Nat) : Int) ≤ 57›
          go_roundw
          case rel => exact ⟨k + 1, 10 * m + (((s[k].toNat : Nat) : Int) - 48), by go_num, by go_num, trivial, dig_next HR.out hk q.1 q.2⟩
          case measure => simp [intOf]; omega
        · go_ret
          exact ⟨ret_int (by rw [dig_bad HR.out hk (.inl (by assumption))]), rfl⟩
      · go_wp2_with fail
        go_ret
        exact ⟨ret_int (by rw [dig_done HR.out hk]), rfl⟩
  · exfalso
    exact absurd (HP.out (by assumption)) (by assumption)
  · go_ret
    exact ⟨ret_int (by rw [place_long (by have := ‹9 < (s.size : Int)›; omega)]), rfl⟩
end Go.Proofs.YtcpbdmgkeljkgaaGreatDoor
namespace Go.Proofs.YtcpbdmgkeljkgaaGreatDoor
open Go.RowKit
set_option maxRecDepth 100000

theorem namedP_any (f : ByteArray × T) (q : Addr) (s : ByteArray) (w : World) (hq : w.cell? q = some (.string s)) :
    Calls Tryz.prog 266 #[farg f, .pointer (some q)] w fun e w' => e = .returned (.bool (f.1.toList == s.toList)) ∧ Below w.heap.size w w' := by
  obtain ⟨fx, kx, nx, sx, lax, lcx, lx, dax, dcx, dx⟩ := f
  show Calls _ _ #[.agg #[.string fx, .int .i64 kx, .int .i64 nx, .string sx, .slice lax lx.length lcx, .slice dax dx.length dcx], .pointer (some q)] _ _
  have hlt := cell_lt hq
  have hq2 : ∀ o, (w.alloc o).cell? q = some (.string s) := fun o => ((below1 w o).cell hlt).trans hq
  go_enter Tryz.func266, Tryz.ntmps266
  go_wp2_with fail
  go_ret
  exact ⟨rfl, below1 _ _⟩

set_option maxHeartbeats 1000000 in
theorem indexFuncP_any (la : Option Addr) (ca : Nat) (l : List (ByteArray × T)) (q : Addr) (s : ByteArray) (w : World) (hq : w.cell? q = some (.string s)) (ha : InD w la l) (hl : l.length ≤ 1759218604390) :
    Calls Tryz.prog 172 #[.slice la l.length ca, .func (.func 266) #[] #[.pointer (some q)]] w fun e w' => e = .returned (.int .i64 (idxD (l.map fun f => (f.1, f.2.val)) s 0)) ∧ Below w.heap.size w w' := by
  go_enter Tryz.func172, Tryz.ntmps172
  go_wp2_with fail
  go_loopw [5, 8] (fun _ i wr => ∃ k : Nat, k ≤ l.length ∧ i = .int .i64 k ∧ Below w.heap.size w wr ∧ idxD (l.map fun f => (f.1, f.2.val)) s 0 = idxD ((l.map fun f => (f.1, f.2.val)).drop k) s k) (fun _ i _ => l.length - (intOf i).toNat)
  case atStart => exact ⟨0, by omega, rfl, Below.refl _ _, by simp⟩
  case round =>
    obtain ⟨k, hk, rfl, hbel, heq⟩ := hrel
    have HH := Lib.hid heq
    clear heq
    by_cases h1 : k < l.length
    · obtain ⟨b, o, fx, kx, nx, sx, lax, lcx, lx, dax, dcx, dx, rfl, hx, hix, x0, x1, x2, x3, x4, x5⟩ := (ha.then_ hbel).six h1
      have hx2 : (l.map fun f => (f.1, f.2.val))[k]? = some (fx, (T.mk kx nx sx lax lcx lx dax dcx dx).val) := by rw [List.getElem?_map, hx]; rfl
      have HT := Lib.hid (idxD_step (s := s) hx2)
      have hq1 : wr.cell? q = some (.string s) := (hbel.cell (cell_lt hq)).trans hq
      have HN := fun w h => namedP_any (fx, T.mk kx nx sx lax lcx lx dax dcx dx) q s w h
      replace HN := Lib.hid HN
      clear hx hx2 ha
      go_wp2_with (go_at_call 266; refine (HN.out _ hq1).mono ?_; rintro e w1 ⟨rfl, hb1⟩)
      · go_ret
        have ht := ‹(_ == _) = true›
        exact ⟨ret_int (by rw [HH.out, HT.out, if_pos ht]), below_then hbel hb1⟩
      · have ht := ‹(_ == _) = false›
        go_roundw
        case rel => exact ⟨k + 1, by omega, by go_num, below_then hbel hb1, by rw [HH.out, HT.out, if_neg (by simp [ht])]⟩
        case measure => simp [intOf]; omega
    · go_wp2_with fail
      go_ret
      exact ⟨ret_int (by rw [HH.out, idxD_done (by simp; omega)]), hbel⟩


theorem stand_any (t : T) (ok : t.ok) (p : ByteArray) (w : World) (hin : t.In w) : Calls Tryz.prog 264 #[t.arg, .string p] w fun e w' => e = .returned (.int .i64 (standV t.val p)) ∧ Below w.heap.size w w' := by
  obtain ⟨kx, nx, sx, lax, lcx, lx, dax, dcx, dx⟩ := t
  show Calls _ _ #[.agg #[.int .i64 kx, .int .i64 nx, .string sx, .slice lax lx.length lcx, .slice dax dx.length dcx], .string p] _ _
  rw [T.val_mk, standV]
  obtain ⟨-, -, -, -, hs, hl1, hl2, hd1, hd2, okl, okd⟩ := ok.parts
  have hB := placeN_bound p
  by_cases h5 : kx = 5
  · subst h5
    have HI := fun w1 q h1 h2 => indexFuncP_any dax dcx dx q p w1 h1 h2 (by omega)
    replace HI := Lib.hid HI
    rw [if_pos rfl]
    clear okl okd ok
    go_enter Tryz.func264, Tryz.ntmps264
    go_wp2_with (go_at_call 172; refine (HI.out _ _ ?_ ?_).mono ?_; (simp [go_sem]); (exact hin.parts.2.then_ (below2 _ _ _)); rintro e w1 ⟨rfl, hb1⟩)
    go_ret
    exact ⟨rfl, below_then (below2 _ _ _) hb1⟩
  · rw [if_neg h5]
    have h5b : ((kx : Int) == 5) = false := by simp [h5]
    by_cases h6 : kx = 6
    · subst h6
      rw [if_pos rfl, List.length_map]
      have HP := fun w1 => place_any_ p w1
      replace HP := Lib.hid HP
      clear okl okd ok h5
      generalize hn : placeN p = n at HP hB ⊢
      clear hn
      go_enter Tryz.func264, Tryz.ntmps264
      go_wp2_with (go_at_call 267; refine (HP.out _).mono ?_; rintro e w1 ⟨rfl, rfl⟩)
      · go_ret
        exact ⟨rfl, below2 _ _ _⟩
      · go_ret
        exact ⟨rfl, below2 _ _ _⟩
    · have h6b : ((kx : Int) == 6) = false := by simp [h6]
      rw [if_neg h6]
      clear h5 h6 okl okd ok
      go_enter Tryz.func264, Tryz.ntmps264
      go_wp2_with fail
      go_ret
      exact ⟨rfl, below2 _ _ _⟩
theorem tooMany_any (la : Option Addr) (c : Nat) (n : Nat) (w : World) : Calls Tryz.prog 54 #[.slice la n c] w fun e w' => e = .returned (.bool (decide (10 < (n : Int)))) ∧ w' = w := by
  go_enter Tryz.func54, Tryz.ntmps54
  go_wp2_with fail
  go_ret
  exact ⟨rfl, rfl⟩
end Go.Proofs.YtcpbdmgkeljkgaaGreatDoor
