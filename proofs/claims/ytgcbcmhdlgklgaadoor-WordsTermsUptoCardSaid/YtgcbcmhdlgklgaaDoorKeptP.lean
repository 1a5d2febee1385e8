/- Plain words for a lent value that its owner looks over and writes over. No statement is proved here. -/
import Derived.Test.YtgcbcmhdlgklgaaDoorMark
namespace Go.Proofs.YtgcbcmhdlgklgaaDoor
open Go.RowKit
set_option maxRecDepth 100000

/-- Block g's cells from k on are as they were in w; n cells are there, and may be written. -/
def Live (w wr : World) (g : Nat) (e : TypeId) (n k : Nat) : Prop := ∃ cur : Array Value, wr.heap[g]? = some (.cells cur e (0, 0)) ∧ n ≤ cur.size ∧ ∀ i, k ≤ i → cur[i]? = w.cell? ⟨g, i, none⟩
theorem Live.only {w wr w' : World} {g n k : Nat} {e : TypeId} {S : List Nat} (h : Live w wr g e n k) (ho : Only S wr w') (hg : g ∉ S) : Live w w' g e n k := by
  obtain ⟨cur, h1, h2, h3⟩ := h
  exact ⟨cur, keep_row ho h1 hg, h2, h3⟩
theorem Live.put {w wr : World} {g n k c : Nat} {e : TypeId} (h : Live w wr g e n (k * c)) (vs : List Value) (hv : vs.length = c) (hn : (k + 1) * c ≤ n) : Live w (putCells wr g (k * c) vs) g e n ((k + 1) * c) := by
  obtain ⟨cur, h1, h2, h3⟩ := h
  have e1 : (k + 1) * c = k * c + c := Nat.succ_mul k c
  obtain ⟨cur', g1, g2, g3⟩ := put_block (g := g) vs (k * c) cur wr h1 (by omega)
  exact ⟨cur', g1, by omega, fun i hi => by rw [g3, if_neg (by omega)]; exact h3 i (by omega)⟩
theorem Live.cell {w wr : World} {g n k : Nat} {e : TypeId} (h : Live w wr g e n k) {i : Nat} (hi : k ≤ i) : wr.cell? ⟨g, i, none⟩ = w.cell? ⟨g, i, none⟩ := by
  obtain ⟨cur, h1, h2, h3⟩ := h
  rw [cell_of_row wr g i cur e (0, 0) h1]
  exact h3 i hi
theorem Live.room {w wr : World} {g n k : Nat} {e : TypeId} (h : Live w wr g e n k) {i : Nat} (hi : i < n) : (∃ v, wr.cell? ⟨g, i, none⟩ = some v) ∧ wr.frozen? ⟨g, i, none⟩ = false := by
  obtain ⟨cur, h1, h2, h3⟩ := h
  rw [cell_of_row wr g i cur e (0, 0) h1]
  exact ⟨⟨_, Array.getElem?_eq_getElem (by omega)⟩, frozen_of_row wr g i cur e h1⟩
theorem Live.room5 {w wr : World} {g n k : Nat} {e : TypeId} (h : Live w wr g e n k) {i : Nat} (hi : (i + 1) * 5 ≤ n) :
    ∃ v0 v1 v2 v3 v4, wr.cell? ⟨g, i * 5, none⟩ = some v0 ∧ wr.cell? ⟨g, i * 5 + 1, none⟩ = some v1 ∧ wr.cell? ⟨g, i * 5 + 2, none⟩ = some v2 ∧ wr.cell? ⟨g, i * 5 + 3, none⟩ = some v3 ∧ wr.cell? ⟨g, i * 5 + 4, none⟩ = some v4 ∧
      wr.frozen? ⟨g, i * 5, none⟩ = false ∧ wr.frozen? ⟨g, i * 5 + 1, none⟩ = false ∧ wr.frozen? ⟨g, i * 5 + 2, none⟩ = false ∧ wr.frozen? ⟨g, i * 5 + 3, none⟩ = false ∧ wr.frozen? ⟨g, i * 5 + 4, none⟩ = false := by
  obtain ⟨⟨v0, c0⟩, f0⟩ := h.room (i := i * 5) (by omega)
  obtain ⟨⟨v1, c1⟩, f1⟩ := h.room (i := i * 5 + 1) (by omega)
  obtain ⟨⟨v2, c2⟩, f2⟩ := h.room (i := i * 5 + 2) (by omega)
  obtain ⟨⟨v3, c3⟩, f3⟩ := h.room (i := i * 5 + 3) (by omega)
  obtain ⟨⟨v4, c4⟩, f4⟩ := h.room (i := i * 5 + 4) (by omega)
  exact ⟨v0, v1, v2, v3, v4, c0, c1, c2, c3, c4, f0, f1, f2, f3, f4⟩
theorem Live.room6 {w wr : World} {g n k : Nat} {e : TypeId} (h : Live w wr g e n k) {i : Nat} (hi : (i + 1) * 6 ≤ n) :
    ∃ v0 v1 v2 v3 v4 v5, wr.cell? ⟨g, i * 6, none⟩ = some v0 ∧ wr.cell? ⟨g, i * 6 + 1, none⟩ = some v1 ∧ wr.cell? ⟨g, i * 6 + 2, none⟩ = some v2 ∧ wr.cell? ⟨g, i * 6 + 3, none⟩ = some v3 ∧ wr.cell? ⟨g, i * 6 + 4, none⟩ = some v4 ∧ wr.cell? ⟨g, i * 6 + 5, none⟩ = some v5 ∧
      wr.frozen? ⟨g, i * 6, none⟩ = false ∧ wr.frozen? ⟨g, i * 6 + 1, none⟩ = false ∧ wr.frozen? ⟨g, i * 6 + 2, none⟩ = false ∧ wr.frozen? ⟨g, i * 6 + 3, none⟩ = false ∧ wr.frozen? ⟨g, i * 6 + 4, none⟩ = false ∧ wr.frozen? ⟨g, i * 6 + 5, none⟩ = false := by
  obtain ⟨⟨v0, c0⟩, f0⟩ := h.room (i := i * 6) (by omega)
  obtain ⟨⟨v1, c1⟩, f1⟩ := h.room (i := i * 6 + 1) (by omega)
  obtain ⟨⟨v2, c2⟩, f2⟩ := h.room (i := i * 6 + 2) (by omega)
  obtain ⟨⟨v3, c3⟩, f3⟩ := h.room (i := i * 6 + 3) (by omega)
  obtain ⟨⟨v4, c4⟩, f4⟩ := h.room (i := i * 6 + 4) (by omega)
  obtain ⟨⟨v5, c5⟩, f5⟩ := h.room (i := i * 6 + 5) (by omega)
  exact ⟨v0, v1, v2, v3, v4, v5, c0, c1, c2, c3, c4, c5, f0, f1, f2, f3, f4, f5⟩
/-- What a row owns stands in its block. -/
theorem own_live {w : World} {B : Nat} {e : TypeId} {c n cap : Nat} {a : Option Addr} {xs : List Value} (h : w.ownsRow B e c (.slice a (n + 1) cap) (n + 1) xs) :
    ∃ g, a = some ⟨g, 0, none⟩ ∧ n + 1 ≤ cap ∧ Live w w g e ((n + 1) * c) 0 ∧ ∀ i, i < (n + 1) * c → w.cell? ⟨g, i, none⟩ = xs[i]? := by
  obtain ⟨h1, h2⟩ := h
  rcases h2 with ⟨hv, _⟩ | ⟨g, cap', cur, hv, hb, hg, hkc, hm, hs, ht⟩
  · cases hv
  · injection hv with e1 e2 e3
    subst e1 e3
    have hle := Nat.mul_le_mul_right c hkc
    refine ⟨g, rfl, hkc, ⟨cur, hg, by omega, fun i _ => (cell_of_row w g i cur e (0, 0) hg).symm⟩, fun i hi => ?_⟩
    rw [cell_of_row w g i cur e (0, 0) hg, ← ht, List.getElem?_take_of_lt hi, Array.getElem?_toList]

theorem blocks_flat {α : Type} (f : α → List Row) (l : List α) : blocksOf (l.flatMap f) = l.flatMap fun x => blocksOf (f x) := by
  unfold blocksOf
  rw [List.filterMap_flatMap]
/-- A lent value's blocks, one by one: none twice. -/
structure Kin (S : List Nat) (g1 g2 : Nat) (l : List T) (d : List (ByteArray × T)) : Prop where
  in1 : g1 ∈ S
  in2 : g2 ∈ S
  inL : ∀ x ∈ l, ∀ b ∈ blocksOf x.mrows, b ∈ S ∧ b ≠ g1 ∧ b ≠ g2
  inD : ∀ x ∈ d, ∀ b ∈ blocksOf x.2.mrows, b ∈ S ∧ b ≠ g1 ∧ b ≠ g2
  ne : g1 ≠ g2
  apL : ∀ (i j : Nat) (x y : T), l[i]? = some x → l[j]? = some y → i ≠ j → ∀ b ∈ blocksOf x.mrows, b ∉ blocksOf y.mrows
  apD : ∀ (i j : Nat) (x y : ByteArray × T), d[i]? = some x → d[j]? = some y → i ≠ j → ∀ b ∈ blocksOf x.2.mrows, b ∉ blocksOf y.2.mrows
  apLD : ∀ x ∈ l, ∀ y ∈ d, ∀ b ∈ blocksOf x.mrows, b ∉ blocksOf y.2.mrows
theorem pair_at {α : Type} {R : α → α → Prop} (hs : ∀ x y, R x y → R y x) {l : List α} (h : l.Pairwise R) {i j : Nat} {x y : α} (hx : l[i]? = some x) (hy : l[j]? = some y) (hij : i ≠ j) : R x y := by
  obtain ⟨h1, rfl⟩ := List.getElem?_eq_some_iff.1 hx
  obtain ⟨h2, rfl⟩ := List.getElem?_eq_some_iff.1 hy
  rcases Nat.lt_or_gt_of_ne hij with h3 | h3
  · exact List.pairwise_iff_getElem.1 h i j h1 h2 h3
  · exact hs _ _ (List.pairwise_iff_getElem.1 h j i h2 h1 h3)
theorem marked_kids {w : World} {B : Nat} {k n : Int} {s : ByteArray} {lc dc g1 g2 : Nat} {l : List T} {d : List (ByteArray × T)} (h : T.Marked w B (.mk k n s (some ⟨g1, 0, none⟩) lc l (some ⟨g2, 0, none⟩) dc d)) :
    Kin (blocksOf (T.mrows (.mk k n s (some ⟨g1, 0, none⟩) lc l (some ⟨g2, 0, none⟩) dc d))) g1 g2 l d ∧ (∀ x ∈ l, x.Marked w B) ∧ ∀ f ∈ d, f.2.Marked w B := by
  obtain ⟨ok, owns, nodup⟩ := h
  have hb : blocksOf (T.mrows (.mk k n s (some ⟨g1, 0, none⟩) lc l (some ⟨g2, 0, none⟩) dc d)) = g1 :: g2 :: ((l.flatMap fun x => blocksOf x.mrows) ++ d.flatMap fun f => blocksOf f.2.mrows) := by
    simp only [T.mrows, T.mrowsL_eq, T.mrowsD_eq]
    rw [← blocks_flat, ← blocks_flat, ← blocksOf_append]
    rfl
  rw [hb] at nodup ⊢
  obtain ⟨n1, nodup⟩ := List.nodup_cons.1 nodup
  obtain ⟨n2, nodup⟩ := List.nodup_cons.1 nodup
  obtain ⟨nl, nd, nld⟩ := List.nodup_append.1 nodup
  obtain ⟨nl1, nl2⟩ := List.pairwise_flatMap.1 nl
  obtain ⟨nd1, nd2⟩ := List.pairwise_flatMap.1 nd
  have mL : ∀ x ∈ l, ∀ b ∈ blocksOf x.mrows, b ∈ (l.flatMap fun x => blocksOf x.mrows) := fun x hx b hb => List.mem_flatMap.2 ⟨x, hx, hb⟩
  have mD : ∀ x ∈ d, ∀ b ∈ blocksOf x.2.mrows, b ∈ (d.flatMap fun f => blocksOf f.2.mrows) := fun x hx b hb => List.mem_flatMap.2 ⟨x, hx, hb⟩
  have hk := owns.tail.tail
  simp only [T.mrowsL_eq, T.mrowsD_eq] at hk
  simp only [T.ok, T.okL_iff, T.okD_iff] at ok
  obtain ⟨-, -, -, -, -, -, -, -, -, okl, okd⟩ := ok
  refine ⟨⟨by simp, by simp, fun x hx b hm => ⟨?_, ?_, ?_⟩, fun x hx b hm => ⟨?_, ?_, ?_⟩, ?_, ?_, ?_, ?_⟩, fun x hx => ⟨okl x hx, ?_, nl1 x hx⟩, fun x hx => ⟨(okd x hx).2, ?_, nd1 x hx⟩⟩
  · simp only [List.mem_cons, List.mem_append]; exact .inr (.inr (.inl (mL x hx b hm)))
  · intro e; exact n1 (by rw [← e]; simp only [List.mem_cons, List.mem_append]; exact .inr (.inl (mL x hx b hm)))
  · intro e; exact n2 (by rw [← e]; simp only [List.mem_append]; exact .inl (mL x hx b hm))
  · simp only [List.mem_cons, List.mem_append]; exact .inr (.inr (.inr (mD x hx b hm)))
  · intro e; exact n1 (by rw [← e]; simp only [List.mem_cons, List.mem_append]; exact .inr (.inr (mD x hx b hm)))
  · intro e; exact n2 (by rw [← e]; simp only [List.mem_append]; exact .inr (mD x hx b hm))
  · intro e; exact n1 (by rw [e]; simp)
  · intro i j x y hx hy hij b hb hb'
    exact pair_at (R := fun x y => ∀ a ∈ blocksOf x.mrows, ∀ b ∈ blocksOf y.mrows, a ≠ b) (fun x y h a ha b hb e => h b hb a ha e.symm) nl2 hx hy hij b hb b hb' rfl
  · intro i j x y hx hy hij b hb hb'
    exact pair_at (R := fun x y => ∀ a ∈ blocksOf x.2.mrows, ∀ b ∈ blocksOf y.2.mrows, a ≠ b) (fun x y h a ha b hb e => h b hb a ha e.symm) nd2 hx hy hij b hb b hb' rfl
  · intro x hx y hy b hb hb'
    exact nld b (mL x hx b hb) b (mD y hy b hb') rfl
  · exact fun r hr => hk r (List.mem_append.2 (.inl (List.mem_flatMap.2 ⟨x, hx, hr⟩)))
  · exact fun r hr => hk r (List.mem_append.2 (.inr (List.mem_flatMap.2 ⟨x, hx, hr⟩)))

/-- What stands of a lent value when k elements and j fields are looked over. -/
structure KeptRel (w wr : World) (B : Nat) (S : List Nat) (g1 g2 : Nat) (l : List T) (d : List (ByteArray × T)) (ca cb : List Value) (k j : Nat) : Prop where
  only : Only S w wr
  row1 : Live w wr g1 30 ((l.length + 1) * 5) (k * 5)
  row2 : Live w wr g2 54 ((d.length + 1) * 6) (j * 6)
  kidL : ∀ i x, k ≤ i → l[i]? = some x → x.Marked wr B
  kidD : ∀ i x, j ≤ i → d[i]? = some x → x.2.Marked wr B
  box1 : wr.heap[w.heap.size]? = some (.cells ca.toArray 30 (0, 0))
  box2 : wr.heap[w.heap.size + 1]? = some (.cells cb.toArray 30 (0, 0))
theorem KeptRel.drew {w wr : World} {B g1 g2 k j : Nat} {S : List Nat} {l : List T} {d : List (ByteArray × T)} {ca cb : List Value} (h : KeptRel w wr B S g1 g2 l d ca cb k j) : KeptRel w wr.drew B S g1 g2 l d ca cb k j :=
  ⟨h.only.drew, h.row1, h.row2, fun i x hi hx => let m := h.kidL i x hi hx; ⟨m.ok, m.owns, m.nodup⟩, fun i x hi hx => let m := h.kidD i x hi hx; ⟨m.ok, m.owns, m.nodup⟩, h.box1, h.box2⟩
theorem KeptRel.drewN {w wr : World} {B g1 g2 k j : Nat} {S : List Nat} {l : List T} {d : List (ByteArray × T)} {ca cb : List Value} (h : KeptRel w wr B S g1 g2 l d ca cb k j) (n : Nat) : KeptRel w (wr.drewN n) B S g1 g2 l d ca cb k j :=
  ⟨⟨h.only.os, h.only.tape, h.only.output, h.only.size, h.only.block⟩, h.row1, h.row2, fun i x hi hx => let m := h.kidL i x hi hx; ⟨m.ok, m.owns, m.nodup⟩, fun i x hi hx => let m := h.kidD i x hi hx; ⟨m.ok, m.owns, m.nodup⟩, h.box1, h.box2⟩
theorem kept_stepL {w wr w1 : World} {B g1 g2 k j : Nat} {S : List Nat} {l : List T} {d : List (ByteArray × T)} {ca cb : List Value} {x : T} (R : KeptRel w wr B S g1 g2 l d ca cb k j) (K : Kin S g1 g2 l d) (hS : ∀ b ∈ S, b < w.heap.size) (hx : l[k]? = some x) (ho : Only (blocksOf x.mrows) wr w1) (vs : List Value) (hv : vs.length = 5) :
    KeptRel w (putCells w1 g1 (k * 5) vs) B S g1 g2 l d ca cb (k + 1) j := by
  have hxm := List.mem_of_getElem? hx
  have hk : k < l.length := (List.getElem?_eq_some_iff.1 hx).1
  have p := put_only vs g1 (k * 5) w1
  have q : Only (g1 :: blocksOf x.mrows) wr (putCells w1 g1 (k * 5) vs) := (ho.mono (fun b hb => .inl (List.mem_cons_of_mem _ hb))).trans (p.mono (by simp))
  have hg : g1 ∉ blocksOf x.mrows := fun h => (K.inL x hxm _ h).2.1 rfl
  refine ⟨R.only.then_ q (fun b hb => .inl ?_), (R.row1.only ho hg).put vs hv (by omega), R.row2.only q ?_, fun i y hi hy => ?_, fun i y hi hy => ?_, keep_row q R.box1 ?_, keep_row q R.box2 ?_⟩
  · rcases List.mem_cons.1 hb with rfl | hb
    · exact K.in1
    · exact (K.inL x hxm b hb).1
  · intro h
    rcases List.mem_cons.1 h with h | h
    · exact K.ne h.symm
    · exact (K.inL x hxm _ h).2.2 rfl
  · refine (R.kidL i y (by omega) hy).keep q (fun b hb h => ?_) (Nat.le_refl _)
    rcases List.mem_cons.1 h with h | h
    · exact (K.inL y (List.mem_of_getElem? hy) b hb).2.1 h
    · exact K.apL i k y x hy hx (by omega) b hb h
  · refine (R.kidD i y hi hy).keep q (fun b hb h => ?_) (Nat.le_refl _)
    rcases List.mem_cons.1 h with h | h
    · exact (K.inD y (List.mem_of_getElem? hy) b hb).2.1 h
    · exact K.apLD x hxm y (List.mem_of_getElem? hy) b h hb
  · intro h
    rcases List.mem_cons.1 h with h | h
    · have := hS _ K.in1; omega
    · have := hS _ (K.inL x hxm _ h).1; omega
  · intro h
    rcases List.mem_cons.1 h with h | h
    · have := hS _ K.in1; omega
    · have := hS _ (K.inL x hxm _ h).1; omega
theorem kept_stepD {w wr w1 : World} {B g1 g2 k j : Nat} {S : List Nat} {l : List T} {d : List (ByteArray × T)} {ca cb : List Value} {x : ByteArray × T} (R : KeptRel w wr B S g1 g2 l d ca cb k j) (K : Kin S g1 g2 l d) (hS : ∀ b ∈ S, b < w.heap.size) (hk : l.length ≤ k) (hx : d[j]? = some x) (ho : Only (blocksOf x.2.mrows) wr w1) (vs : List Value) (hv : vs.length = 6) :
    KeptRel w (putCells w1 g2 (j * 6) vs) B S g1 g2 l d ca cb k (j + 1) := by
  have hxm := List.mem_of_getElem? hx
  have hj : j < d.length := (List.getElem?_eq_some_iff.1 hx).1
  have p := put_only vs g2 (j * 6) w1
  have q : Only (g2 :: blocksOf x.2.mrows) wr (putCells w1 g2 (j * 6) vs) := (ho.mono (fun b hb => .inl (List.mem_cons_of_mem _ hb))).trans (p.mono (by simp))
  have hg : g2 ∉ blocksOf x.2.mrows := fun h => (K.inD x hxm _ h).2.2 rfl
  refine ⟨R.only.then_ q (fun b hb => .inl ?_), R.row1.only q ?_, (R.row2.only ho hg).put vs hv (by omega), fun i y hi hy => ?_, fun i y hi hy => ?_, keep_row q R.box1 ?_, keep_row q R.box2 ?_⟩
  · rcases List.mem_cons.1 hb with rfl | hb
    · exact K.in2
    · exact (K.inD x hxm b hb).1
  · intro h
    rcases List.mem_cons.1 h with h | h
    · exact K.ne h
    · exact (K.inD x hxm _ h).2.1 rfl
  · have := (List.getElem?_eq_some_iff.1 hy).1
    omega
  · refine (R.kidD i y (by omega) hy).keep q (fun b hb h => ?_) (Nat.le_refl _)
    rcases List.mem_cons.1 h with h | h
    · exact (K.inD y (List.mem_of_getElem? hy) b hb).2.2 h
    · exact K.apD i j y x hy hx (by omega) b hb h
  · intro h
    rcases List.mem_cons.1 h with h | h
    · have := hS _ K.in2; omega
    · have := hS _ (K.inD x hxm _ h).1; omega
  · intro h
    rcases List.mem_cons.1 h with h | h
    · have := hS _ K.in2; omega
    · have := hS _ (K.inD x hxm _ h).1; omega

/-- The five cells of an element that is not yet looked over. -/
theorem live_five {w wr : World} {g n k : Nat} {l : List T} {xs : List Value} (h : Live w wr g 30 n (k * 5)) (hc : ∀ i, i < (l.length + 1) * 5 → w.cell? ⟨g, i, none⟩ = (l.flatMap T.cells ++ xs)[i]?) {kx nx : Int} {sx : ByteArray} {la : Option Addr} {lc : Nat} {lx : List T} {da : Option Addr} {dc : Nat} {dx : List (ByteArray × T)} (hx : l[k]? = some (.mk kx nx sx la lc lx da dc dx)) :
    wr.cell? ⟨g, k * 5, none⟩ = some (.int .i64 kx) ∧ wr.cell? ⟨g, k * 5 + 1, none⟩ = some (.int .i64 nx) ∧ wr.cell? ⟨g, k * 5 + 2, none⟩ = some (.string sx) ∧ wr.cell? ⟨g, k * 5 + 3, none⟩ = some (.slice la lx.length lc) ∧ wr.cell? ⟨g, k * 5 + 4, none⟩ = some (.slice da dx.length dc) := by
  have hk : k < l.length := (List.getElem?_eq_some_iff.1 hx).1
  have key : ∀ j, j < 5 → wr.cell? ⟨g, k * 5 + j, none⟩ = (T.cells (.mk kx nx sx la lc lx da dc dx))[j]? := fun j hj => by
    rw [h.cell (by omega), hc _ (by omega), List.getElem?_append_left (by rw [flat_len]; omega)]
    exact flatMap_get T.cells 5 cells_len l k _ hx j hj
  exact ⟨key 0 (by omega), key 1 (by omega), key 2 (by omega), key 3 (by omega), key 4 (by omega)⟩
theorem live_six {w wr : World} {g n k : Nat} {l : List (ByteArray × T)} {xs : List Value} (h : Live w wr g 54 n (k * 6)) (hc : ∀ i, i < (l.length + 1) * 6 → w.cell? ⟨g, i, none⟩ = (l.flatMap fcells ++ xs)[i]?) {f : ByteArray} {kx nx : Int} {sx : ByteArray} {la : Option Addr} {lc : Nat} {lx : List T} {da : Option Addr} {dc : Nat} {dx : List (ByteArray × T)} (hx : l[k]? = some (f, .mk kx nx sx la lc lx da dc dx)) :
    wr.cell? ⟨g, k * 6, none⟩ = some (.string f) ∧ wr.cell? ⟨g, k * 6 + 1, none⟩ = some (.int .i64 kx) ∧ wr.cell? ⟨g, k * 6 + 2, none⟩ = some (.int .i64 nx) ∧ wr.cell? ⟨g, k * 6 + 3, none⟩ = some (.string sx) ∧ wr.cell? ⟨g, k * 6 + 4, none⟩ = some (.slice la lx.length lc) ∧ wr.cell? ⟨g, k * 6 + 5, none⟩ = some (.slice da dx.length dc) := by
  have hk : k < l.length := (List.getElem?_eq_some_iff.1 hx).1
  have key : ∀ j, j < 6 → wr.cell? ⟨g, k * 6 + j, none⟩ = (fcells (f, .mk kx nx sx la lc lx da dc dx))[j]? := fun j hj => by
    rw [h.cell (by omega), hc _ (by omega), List.getElem?_append_left (by rw [fflat_len]; omega)]
    exact flatMap_getD fcells 6 fcells_len l k _ hx j hj
  exact ⟨key 0 (by omega), key 1 (by omega), key 2 (by omega), key 3 (by omega), key 4 (by omega), key 5 (by omega)⟩
/-- What lies apart from a lent value lies there still. -/
theorem In.only {w wr : World} {S : List Nat} {t : T} (h : t.In w) (ho : Only S w wr) (hs : ∀ p ∈ t.places, p.1.block ∉ S) : t.In wr := fun p hp =>
  (World.cell?_of_block (ho.block _ (cell_lt (h p hp)) (hs p hp))).trans (h p hp)
end Go.Proofs.YtgcbcmhdlgklgaaDoor
