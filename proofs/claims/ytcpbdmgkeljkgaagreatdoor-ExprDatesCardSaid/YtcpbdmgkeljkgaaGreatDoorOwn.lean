/- Plain words for values that a call has made in memory of its own: no statement is proved here. -/
import Derived.Test.YtcpbdmgkeljkgaaGreatDoorTree
import Derived.Laws.OwnMore
import Derived.OwnWalk
import Derived.OneCell
import Derived.Maps.AppendAt
import Derived.Laws.Rows
import Derived.Laws.NewBlocks
namespace Go.Proofs.YtcpbdmgkeljkgaaGreatDoor
open Go.RowKit
set_option maxRecDepth 100000

/-- A row of cells that a value lies in. -/
structure Row where
  e : TypeId
  size : Nat
  v : Value
  n : Nat
  xs : List Value

mutual
/-- The rows that a value lies in. -/
def T.rows : T → List Row
  | .mk _ _ _ la lc l da dc d => ⟨28, 5, .slice la l.length lc, l.length, l.flatMap T.cells⟩ :: ⟨44, 6, .slice da d.length dc, d.length, d.flatMap fcells⟩ :: (T.rowsL l ++ T.rowsD d)
def T.rowsL : List T → List Row
  | [] => []
  | x :: r => x.rows ++ T.rowsL r
def T.rowsD : List (ByteArray × T) → List Row
  | [] => []
  | (_, x) :: r => x.rows ++ T.rowsD r
end
theorem T.rowsL_eq (l : List T) : T.rowsL l = l.flatMap T.rows := by induction l with
  | nil => rfl
  | cons x r ih => simp [T.rowsL, ih]
theorem T.rowsD_eq (l : List (ByteArray × T)) : T.rowsD l = l.flatMap fun f => f.2.rows := by induction l with
  | nil => rfl
  | cons x r ih => obtain ⟨s, x⟩ := x; simp [T.rowsD, ih]

/-- The blocks of rows. -/
def blocksOf (l : List Row) : List Nat := l.filterMap fun r => r.v.ownBlock
/-- A call owns rows from block B on. -/
def Owns (w : World) (B : Nat) (l : List Row) : Prop := ∀ r ∈ l, w.ownsRow B r.e r.size r.v r.n r.xs
/-- Of what was there only the blocks of S may have turned. -/
structure Only (S : List Nat) (w w' : World) : Prop where
  os : w'.os = w.os
  tape : w'.tape = w.tape
  output : w'.output = w.output
  size : w.heap.size ≤ w'.heap.size
  block : ∀ k, k < w.heap.size → k ∉ S → w'.heap[k]? = w.heap[k]?

theorem Only.refl (S : List Nat) (w : World) : Only S w w := ⟨rfl, rfl, rfl, Nat.le_refl _, fun _ _ _ => rfl⟩
theorem Only.trans {S : List Nat} {a b c : World} (h : Only S a b) (k : Only S b c) : Only S a c :=
  ⟨k.os.trans h.os, k.tape.trans h.tape, k.output.trans h.output, Nat.le_trans h.size k.size, fun i hi hn => (k.block i (Nat.lt_of_lt_of_le hi h.size) hn).trans (h.block i hi hn)⟩
theorem Only.of_below {S : List Nat} {a b : World} (h : Below a.heap.size a b) : Only S a b := ⟨h.os, h.tape, h.output, h.size, fun k hk _ => h.block k hk⟩
theorem Only.below {a b : World} (h : Only [] a b) : Below a.heap.size a b := ⟨h.os, h.tape, h.output, h.size, fun k hk => h.block k hk (by simp)⟩
/-- What is new may turn, and S may grow. -/
theorem Only.mono {S S' : List Nat} {a b : World} (h : Only S a b) (hs : ∀ k ∈ S, k ∈ S' ∨ a.heap.size ≤ k) : Only S' a b :=
  ⟨h.os, h.tape, h.output, h.size, fun k hk hn => h.block k hk fun hk' => by rcases hs k hk' with h1 | h1; exact hn h1; omega⟩
theorem Only.drew {S : List Nat} {a b : World} (h : Only S a b) : Only S a b.drew := ⟨h.os, h.tape, h.output, h.size, h.block⟩
/-- A step that turns S' behind one that turns S: S' lies in S, or is new. -/
theorem Only.then_ {S S' : List Nat} {a b c : World} (h : Only S a b) (k : Only S' b c) (hs : ∀ i ∈ S', i ∈ S ∨ a.heap.size ≤ i) : Only S a c :=
  ⟨k.os.trans h.os, k.tape.trans h.tape, k.output.trans h.output, Nat.le_trans h.size k.size, fun i hi hn =>
    (k.block i (Nat.lt_of_lt_of_le hi h.size) (fun hi' => by rcases hs i hi' with h1 | h1; exact hn h1; omega)).trans (h.block i hi hn)⟩
theorem Only.setCell {S : List Nat} {a b : World} (h : Only S a b) {p : Addr} (hp : p.block ∈ S ∨ a.heap.size ≤ p.block) (u : Value) : Only S a (b.setCell p u) :=
  ⟨h.os, h.tape, h.output, by simpa [World.setCell] using h.size, fun i hi hn => (Below.heap_setCell b p u i (by rintro rfl; rcases hp with hp | hp; exact hn hp; omega)).trans (h.block i hi hn)⟩
theorem Only.alloc {S : List Nat} {a b : World} (h : Only S a b) (o : Obj) : Only S a (b.alloc o) :=
  ⟨h.os, h.tape, h.output, Nat.le_trans h.size (by simp), fun i hi hn => (Below.heap_alloc b o i (Nat.lt_of_lt_of_le hi h.size)).trans (h.block i hi hn)⟩

theorem owns_lt {w : World} {B : Nat} {l : List Row} (h : Owns w B l) : ∀ b ∈ blocksOf l, B ≤ b ∧ b < w.heap.size := by
  intro b hb
  obtain ⟨r, hr, hb⟩ := List.mem_filterMap.1 hb
  exact (h r hr).lt b hb
theorem Owns.keep {w w' : World} {B : Nat} {l : List Row} (h : Owns w B l) (hk : ∀ b ∈ blocksOf l, w'.heap[b]? = w.heap[b]?) : Owns w' B l := by
  intro r hr
  obtain ⟨h1, h2⟩ := h r hr
  refine ⟨h1, ?_⟩
  rcases h2 with h2 | ⟨g, cap, cur, hv, hb, hg, hrest⟩
  · exact .inl h2
  · exact .inr ⟨g, cap, cur, hv, hb, by rw [hk g (List.mem_filterMap.2 ⟨r, hr, by simp [hv, Value.ownBlock]⟩)]; exact hg, hrest⟩
theorem Owns.below {w w' : World} {B : Nat} {l : List Row} (h : Owns w B l) (hb : Below w.heap.size w w') : Owns w' B l := h.keep fun b hb' => hb.block b (owns_lt h b hb').2
theorem Owns.only {w w' : World} {B : Nat} {S : List Nat} {l : List Row} (h : Owns w B l) (ho : Only S w w') (hd : ∀ b ∈ blocksOf l, b ∉ S) : Owns w' B l := h.keep fun b hb' => ho.block b (owns_lt h b hb').2 (hd b hb')
theorem Owns.base {w : World} {B B' : Nat} {l : List Row} (h : Owns w B l) (hB : B' ≤ B) : Owns w B' l := by
  intro r hr
  obtain ⟨h1, h2⟩ := h r hr
  refine ⟨h1, ?_⟩
  rcases h2 with h2 | ⟨g, cap, cur, hv, hb, hrest⟩
  · exact .inl h2
  · exact .inr ⟨g, cap, cur, hv, by omega, hrest⟩

/-- A value that the call made: from block B on, in memory that no two of its parts share. -/
structure T.Own (w : World) (B : Nat) (t : T) : Prop where
  ok : t.ok
  owns : Owns w B t.rows
  nodup : (blocksOf t.rows).Nodup

theorem cells_len (t : T) : t.cells.length = 5 := by cases t; rfl
theorem fcells_len (f : ByteArray × T) : (fcells f).length = 6 := by simp [fcells, cells_len]
theorem flatMap_get (f : T → List Value) (c : Nat) (hf : ∀ x, (f x).length = c) (l : List T) : ∀ (i : Nat) (x : T), l[i]? = some x → ∀ j, j < c → (l.flatMap f)[i * c + j]? = (f x)[j]? := by
  induction l with
  | nil => intro i x h; simp at h
  | cons y r ih =>
    intro i x h j hj
    rw [List.flatMap_cons]
    cases i with
    | zero =>
      simp at h
      subst h
      rw [List.getElem?_append_left (by rw [hf]; omega)]
      simp
    | succ i =>
      rw [List.getElem?_append_right (by rw [hf, Nat.succ_mul]; omega), hf, show (i + 1) * c + j - c = i * c + j by rw [Nat.succ_mul]; omega]
      exact ih i x (by simpa using h) j hj
theorem flatMap_getD (f : ByteArray × T → List Value) (c : Nat) (hf : ∀ x, (f x).length = c) (l : List (ByteArray × T)) : ∀ (i : Nat) (x : ByteArray × T), l[i]? = some x → ∀ j, j < c → (l.flatMap f)[i * c + j]? = (f x)[j]? := by
  induction l with
  | nil => intro i x h; simp at h
  | cons y r ih =>
    intro i x h j hj
    rw [List.flatMap_cons]
    cases i with
    | zero =>
      simp at h
      subst h
      rw [List.getElem?_append_left (by rw [hf]; omega)]
      simp
    | succ i =>
      rw [List.getElem?_append_right (by rw [hf, Nat.succ_mul]; omega), hf, show (i + 1) * c + j - c = i * c + j by rw [Nat.succ_mul]; omega]
      exact ih i x (by simpa using h) j hj

theorem lt_of_get {α : Type} {l : List α} {j : Nat} {c : α} (h : l[j]? = some c) : j < l.length := (List.getElem?_eq_some_iff.1 h).1
/-- What the call owns lies there. -/
theorem owns_in {w : World} {B : Nat} (t : T) : Owns w B t.rows → t.In w := by
  induction t using T.ind with
  | h k n s la lc l da dc d ihl ihd =>
  intro h
  have hrow : ∀ r ∈ T.rows (.mk k n s la lc l da dc d), w.ownsRow B r.e r.size r.v r.n r.xs := h
  simp only [T.rows, T.rowsL_eq, T.rowsD_eq] at hrow
  refine T.In.of_parts ?_ ?_
  · intro p hp
    obtain ⟨i, x, hx, hp⟩ := (T.mem_placesL _ _ _ _).1 hp
    rcases hp with hp | hp
    · obtain ⟨j, c, hc, rfl⟩ := mem_laid.1 hp
      have hr := hrow _ (List.mem_cons_self ..)
      simp only at hr
      have hjl := lt_of_get hc
      have hil := lt_of_get hx
      rw [cells_len] at hjl
      have hg : (l.flatMap T.cells)[i * 5 + j]? = some c := (flatMap_get T.cells 5 cells_len l i x hx j hjl).trans hc
      have hr2 := hr
      obtain ⟨h1, h2⟩ := hr
      rcases h2 with ⟨hv, h2⟩ | ⟨g, cap, cur, hv, hb, hg', hrest⟩
      · exfalso; omega
      · injection hv with hv
        subst hv
        have := hr2.cells (g := g) rfl (i * 5 + j) c hg
        simp only [Nat.zero_add, at_]
        rw [← this]
        unfold Addr.add
        split
        · rename_i h0; rw [h0]
        · simp
    · exact ihl x (List.mem_of_getElem? hx) (fun r hr => hrow r (by simp only [List.mem_cons, List.mem_append, List.mem_flatMap]; exact .inr (.inr (.inl ⟨x, List.mem_of_getElem? hx, hr⟩)))) p hp
  · intro p hp
    obtain ⟨i, x, hx, hp⟩ := (T.mem_placesD _ _ _ _).1 hp
    rcases hp with hp | hp
    · obtain ⟨j, c, hc, rfl⟩ := mem_laid.1 hp
      have hr := hrow _ (List.mem_cons_of_mem _ (List.mem_cons_self ..))
      simp only at hr
      have hjl := lt_of_get hc
      have hil := lt_of_get hx
      rw [fcells_len] at hjl
      have hg : (d.flatMap fcells)[i * 6 + j]? = some c := (flatMap_getD fcells 6 fcells_len d i x hx j hjl).trans hc
      have hr2 := hr
      obtain ⟨h1, h2⟩ := hr
      rcases h2 with ⟨hv, h2⟩ | ⟨g, cap, cur, hv, hb, hg', hrest⟩
      · exfalso; omega
      · injection hv with hv
        subst hv
        have := hr2.cells (g := g) rfl (i * 6 + j) c hg
        simp only [Nat.zero_add, at_]
        rw [← this]
        unfold Addr.add
        split
        · rename_i h0; rw [h0]
        · simp
    · exact ihd x (List.mem_of_getElem? hx) (fun r hr => hrow r (by simp only [List.mem_cons, List.mem_append, List.mem_flatMap]; exact .inr (.inr (.inr ⟨x, List.mem_of_getElem? hx, hr⟩)))) p hp
theorem T.Own.in_ {w : World} {B : Nat} {t : T} (h : t.Own w B) : t.In w := owns_in t h.owns

/-- Cells written one behind another into block g, from cell o on. -/
def putCells (w : World) (g o : Nat) : List Value → World
  | [] => w
  | v :: r => putCells (w.setCell ⟨g, o, none⟩ v) g (o + 1) r
theorem put_block {g : Nat} {e : TypeId} (vs : List Value) : ∀ (o : Nat) (cur : Array Value) (w : World), w.heap[g]? = some (.cells cur e (0, 0)) → o + vs.length ≤ cur.size →
    ∃ cur' : Array Value, (putCells w g o vs).heap[g]? = some (.cells cur' e (0, 0)) ∧ cur'.size = cur.size ∧ ∀ i : Nat, cur'[i]? = if o ≤ i ∧ i < o + vs.length then vs[i - o]? else cur[i]? := by
  induction vs with
  | nil => intro o cur w h _; exact ⟨cur, h, rfl, fun i => by rw [if_neg (by simp)]⟩
  | cons v r ih =>
    intro o cur w h hl
    simp only [List.length_cons] at hl
    have h1 : (w.setCell ⟨g, o, none⟩ v).heap[g]? = some (.cells (cur.setIfInBounds o v) e (0, 0)) := heap_setCell_same w g o cur e v h
    obtain ⟨cur', g1, g2, g3⟩ := ih (o + 1) _ _ h1 (by simp; omega)
    refine ⟨cur', g1, by rw [g2]; simp, fun i => ?_⟩
    rw [g3]
    by_cases c : o + 1 ≤ i ∧ i < o + 1 + r.length
    · rw [if_pos c, if_pos (by simp only [List.length_cons]; omega)]
      obtain ⟨m, hm⟩ : ∃ m, i - o = m + 1 := ⟨i - (o + 1), by omega⟩
      rw [hm, List.getElem?_cons_succ, show i - (o + 1) = m by omega]
    · rw [if_neg c]
      by_cases c2 : i = o
      · subst c2
        rw [if_pos (by simp only [List.length_cons]; omega), Nat.sub_self, Array.getElem?_setIfInBounds, if_pos rfl, if_pos (by omega)]
        rfl
      · rw [if_neg (by simp only [List.length_cons]; omega), Array.getElem?_setIfInBounds_ne (by omega)]
theorem put_other (vs : List Value) : ∀ (g o : Nat) (w : World) (k : Nat), k ≠ g → (putCells w g o vs).heap[k]? = w.heap[k]? := by
  induction vs with
  | nil => intro g o w k _; rfl
  | cons v r ih => intro g o w k hk; exact (ih g (o + 1) _ k hk).trans (heap_setCell_other w _ k v hk)
theorem put_only (vs : List Value) : ∀ (g o : Nat) (w : World), Only [g] w (putCells w g o vs) := by
  induction vs with
  | nil => intro g o w; exact Only.refl _ _
  | cons v r ih => intro g o w; exact ((Only.refl [g] w).setCell (p := ⟨g, o, none⟩) (.inl (by simp)) v).trans (ih g (o + 1) _)

/-- The next element of a row that was made with room for it. -/
theorem own_put {w : World} {B : Nat} {e : TypeId} {c g k cap : Nat} {xs : List Value} (h : w.ownsRow B e c (.slice (some ⟨g, 0, none⟩) k cap) k xs) (hk : k < cap) (vs : List Value) (hv : vs.length = c) :
    (putCells w g (k * c) vs).ownsRow B e c (.slice (some ⟨g, 0, none⟩) (k + 1) cap) (k + 1) (xs ++ vs) := by
  obtain ⟨h1, h2⟩ := h
  rcases h2 with ⟨hv', _⟩ | ⟨g', cap', cur, hv', hb, hg, hkc, hm, hs, ht⟩
  · cases hv'
  · injection hv' with e1 e2 e3
    injection e1 with e1
    injection e1 with e1
    subst e1 e3
    have hroom : k * c + c ≤ cap * c := by
      have := Nat.mul_le_mul_right c hk
      rw [Nat.succ_mul] at this
      exact this
    obtain ⟨cur', g1, g2, g3⟩ := put_block (g := g) vs (k * c) cur w hg (by rw [hv, hs]; exact hroom)
    refine ⟨by rw [List.length_append, h1, hv, Nat.succ_mul], .inr ⟨g, cap, cur', rfl, hb, g1, by omega, hm, by rw [g2, hs], ?_⟩⟩
    apply List.ext_getElem?
    intro i
    have hxs : ∀ i, i < k * c → xs[i]? = cur[i]? := by
      intro i hi
      rw [← ht, List.getElem?_take_of_lt hi, Array.getElem?_toList]
    by_cases c1 : i < k * c
    · rw [List.getElem?_take_of_lt (by rw [Nat.succ_mul]; omega), Array.getElem?_toList, g3, if_neg (by omega), List.getElem?_append_left (by omega), hxs i c1]
    · by_cases c2 : i < k * c + c
      · rw [List.getElem?_take_of_lt (by rw [Nat.succ_mul]; omega), Array.getElem?_toList, g3, if_pos (by omega), List.getElem?_append_right (by omega), h1]
      · rw [List.getElem?_eq_none (by rw [List.length_take, Array.length_toList, g2, hs, Nat.succ_mul]; omega), List.getElem?_eq_none (by rw [List.length_append, h1, hv]; omega)]
/-- Its cells are there, and may be written. -/
theorem own_room {w : World} {B : Nat} {e : TypeId} {c g k cap : Nat} {xs : List Value} (h : w.ownsRow B e c (.slice (some ⟨g, 0, none⟩) k cap) k xs) {j : Nat} (hj : j < cap * c) : (∃ v, w.cell? ⟨g, j, none⟩ = some v) ∧ w.frozen? ⟨g, j, none⟩ = false := by
  obtain ⟨h1, h2⟩ := h
  rcases h2 with ⟨hv', _⟩ | ⟨g', cap', cur, hv', hb, hg, hkc, hm, hs, ht⟩
  · cases hv'
  · injection hv' with e1 e2 e3
    injection e1 with e1
    injection e1 with e1
    subst e1 e3
    rw [cell_of_row w g j cur e (0, 0) hg]
    exact ⟨⟨_, Array.getElem?_eq_getElem (by omega)⟩, frozen_of_row w g j cur e hg⟩
/-- A row that was made, with no element in it so far. -/
theorem own_start {w : World} {B : Nat} {e : TypeId} {c cap : Nat} (cur : Array Value) (hB : B ≤ w.heap.size) (hm : cap ≤ maxLen) (hs : cur.size = cap * c) :
    (w.alloc (.cells cur e)).ownsRow B e c (.slice (some ⟨w.heap.size, 0, none⟩) 0 cap) 0 [] :=
  ⟨by simp, .inr ⟨w.heap.size, cap, cur, rfl, hB, heap_alloc_new w _, by omega, hm, hs, by simp⟩⟩
theorem row_keep {w w' : World} {B : Nat} {e : TypeId} {c n : Nat} {v : Value} {xs : List Value} (h : w.ownsRow B e c v n xs) (hb : Below w.heap.size w w') : w'.ownsRow B e c v n xs := by
  have h1 : Owns w B [⟨e, c, v, n, xs⟩] := by intro r hr; simp at hr; subst hr; exact h
  exact h1.below hb ⟨e, c, v, n, xs⟩ (by simp)
/-- The five cells of the next element are there, and may be written. -/
theorem own_room5 {w : World} {B : Nat} {e : TypeId} {g k cap : Nat} {xs : List Value} (h : w.ownsRow B e 5 (.slice (some ⟨g, 0, none⟩) k cap) k xs) {i : Nat} (hi : i < cap) :
    ∃ v0 v1 v2 v3 v4, w.cell? ⟨g, i * 5, none⟩ = some v0 ∧ w.cell? ⟨g, i * 5 + 1, none⟩ = some v1 ∧ w.cell? ⟨g, i * 5 + 2, none⟩ = some v2 ∧ w.cell? ⟨g, i * 5 + 3, none⟩ = some v3 ∧ w.cell? ⟨g, i * 5 + 4, none⟩ = some v4 ∧
      w.frozen? ⟨g, i * 5, none⟩ = false ∧ w.frozen? ⟨g, i * 5 + 1, none⟩ = false ∧ w.frozen? ⟨g, i * 5 + 2, none⟩ = false ∧ w.frozen? ⟨g, i * 5 + 3, none⟩ = false ∧ w.frozen? ⟨g, i * 5 + 4, none⟩ = false := by
  obtain ⟨⟨v0, c0⟩, f0⟩ := own_room h (j := i * 5) (by omega)
  obtain ⟨⟨v1, c1⟩, f1⟩ := own_room h (j := i * 5 + 1) (by omega)
  obtain ⟨⟨v2, c2⟩, f2⟩ := own_room h (j := i * 5 + 2) (by omega)
  obtain ⟨⟨v3, c3⟩, f3⟩ := own_room h (j := i * 5 + 3) (by omega)
  obtain ⟨⟨v4, c4⟩, f4⟩ := own_room h (j := i * 5 + 4) (by omega)
  exact ⟨v0, v1, v2, v3, v4, c0, c1, c2, c3, c4, f0, f1, f2, f3, f4⟩
theorem own_room6 {w : World} {B : Nat} {e : TypeId} {g k cap : Nat} {xs : List Value} (h : w.ownsRow B e 6 (.slice (some ⟨g, 0, none⟩) k cap) k xs) {i : Nat} (hi : i < cap) :
    ∃ v0 v1 v2 v3 v4 v5, w.cell? ⟨g, i * 6, none⟩ = some v0 ∧ w.cell? ⟨g, i * 6 + 1, none⟩ = some v1 ∧ w.cell? ⟨g, i * 6 + 2, none⟩ = some v2 ∧ w.cell? ⟨g, i * 6 + 3, none⟩ = some v3 ∧ w.cell? ⟨g, i * 6 + 4, none⟩ = some v4 ∧ w.cell? ⟨g, i * 6 + 5, none⟩ = some v5 ∧
      w.frozen? ⟨g, i * 6, none⟩ = false ∧ w.frozen? ⟨g, i * 6 + 1, none⟩ = false ∧ w.frozen? ⟨g, i * 6 + 2, none⟩ = false ∧ w.frozen? ⟨g, i * 6 + 3, none⟩ = false ∧ w.frozen? ⟨g, i * 6 + 4, none⟩ = false ∧ w.frozen? ⟨g, i * 6 + 5, none⟩ = false := by
  obtain ⟨⟨v0, c0⟩, f0⟩ := own_room h (j := i * 6) (by omega)
  obtain ⟨⟨v1, c1⟩, f1⟩ := own_room h (j := i * 6 + 1) (by omega)
  obtain ⟨⟨v2, c2⟩, f2⟩ := own_room h (j := i * 6 + 2) (by omega)
  obtain ⟨⟨v3, c3⟩, f3⟩ := own_room h (j := i * 6 + 3) (by omega)
  obtain ⟨⟨v4, c4⟩, f4⟩ := own_room h (j := i * 6 + 4) (by omega)
  obtain ⟨⟨v5, c5⟩, f5⟩ := own_room h (j := i * 6 + 5) (by omega)
  exact ⟨v0, v1, v2, v3, v4, v5, c0, c1, c2, c3, c4, c5, f0, f1, f2, f3, f4, f5⟩
theorem blocksOf_append (a b : List Row) : blocksOf (a ++ b) = blocksOf a ++ blocksOf b := List.filterMap_append ..
theorem Owns.append {w : World} {B : Nat} {a b : List Row} (h : Owns w B a) (k : Owns w B b) : Owns w B (a ++ b) := fun r hr => (List.mem_append.1 hr).elim (h r) (k r)
theorem Owns.left {w : World} {B : Nat} {a b : List Row} (h : Owns w B (a ++ b)) : Owns w B a := fun r hr => h r (List.mem_append.2 (.inl hr))
theorem Owns.right {w : World} {B : Nat} {a b : List Row} (h : Owns w B (a ++ b)) : Owns w B b := fun r hr => h r (List.mem_append.2 (.inr hr))
theorem Owns.tail {w : World} {B : Nat} {a : Row} {b : List Row} (h : Owns w B (a :: b)) : Owns w B b := fun r hr => h r (List.mem_cons_of_mem _ hr)
theorem Owns.head {w : World} {B : Nat} {a : Row} {b : List Row} (h : Owns w B (a :: b)) : w.ownsRow B a.e a.size a.v a.n a.xs := h a (List.mem_cons_self ..)
/-- Rows that were there, and rows that lie behind them, share no block. -/
theorem nodup_behind {w w' : World} {B B' : Nat} {a b : List Row} (h : Owns w B a) (k : Owns w' B' b) (hB : w.heap.size ≤ B') (ha : (blocksOf a).Nodup) (hb : (blocksOf b).Nodup) : (blocksOf (a ++ b)).Nodup := by
  rw [blocksOf_append, List.nodup_append]
  exact ⟨ha, hb, fun x hx y hy e => by have := (owns_lt h x hx).2; have := (owns_lt k y hy).1; omega⟩
theorem Owns.put {w : World} {B : Nat} {l : List Row} (h : Owns w B l) {g o : Nat} (hg : g < B) (vs : List Value) : Owns (putCells w g o vs) B l :=
  h.keep fun b hb => put_other vs g o w b (by have := (owns_lt h b hb).1; omega)
theorem below_put {w w1 : World} (h : Below w.heap.size w w1) {g : Nat} (hg : w.heap.size ≤ g) (o : Nat) (vs : List Value) : Below w.heap.size w (putCells w1 g o vs) :=
  ((Only.of_below (S := []) h).then_ (put_only vs g o w1) (fun i hi => .inr (by simp at hi; omega))).below
theorem put_size (vs : List Value) (g o : Nat) (w : World) : w.heap.size ≤ (putCells w g o vs).heap.size := (put_only vs g o w).size
theorem put5 (w : World) (g o : Nat) (a b c d e : Value) : putCells w g o [a, b, c, d, e] = ((((w.setCell ⟨g, o, none⟩ a).setCell ⟨g, o + 1, none⟩ b).setCell ⟨g, o + 2, none⟩ c).setCell ⟨g, o + 3, none⟩ d).setCell ⟨g, o + 4, none⟩ e := rfl
theorem put6 (w : World) (g o : Nat) (a b c d e f : Value) : putCells w g o [a, b, c, d, e, f] = (((((w.setCell ⟨g, o, none⟩ a).setCell ⟨g, o + 1, none⟩ b).setCell ⟨g, o + 2, none⟩ c).setCell ⟨g, o + 3, none⟩ d).setCell ⟨g, o + 4, none⟩ e).setCell ⟨g, o + 5, none⟩ f := rfl
theorem heap_alloc_at (w : World) (o : Obj) (g : Nat) (h : g = w.heap.size) : (w.alloc o).heap[g]? = some o := by subst h; exact heap_alloc_new w o
theorem row_then {w w' : World} {g : Nat} {cs : Array Value} {t : TypeId} {f : Nat × Nat} (h : w.heap[g]? = some (.cells cs t f)) (hb : Below w.heap.size w w') : w'.heap[g]? = some (.cells cs t f) :=
  (hb.block g (lt_of_block h)).trans h
theorem row_cells {w : World} {g : Nat} {cs : Array Value} {t : TypeId} {f : Nat × Nat} (h : w.heap[g]? = some (.cells cs t f)) : ∀ o, w.cell? ⟨g, o, none⟩ = cs[o]? := fun o => cell_of_row w g o cs t f h

end Go.Proofs.YtcpbdmgkeljkgaaGreatDoor
