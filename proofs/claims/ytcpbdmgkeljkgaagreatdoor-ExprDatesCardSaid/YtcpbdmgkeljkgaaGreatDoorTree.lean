/- Plain words for the values of the program as they lie in memory: no statement is proved here. -/
import Derived.Test.YtcpbdmgkeljkgaaGreatDoorProg
import Derived.Below
import Derived.WalkKit
import Derived.WalkSpells
import Derived.WalkLawsBesides
import Derived.BigQuiet
import Derived.Deep.QuietTactic
import Derived.Deep.RegionHeld3
import Derived.StillTailTactics
import Derived.Deep.DeepCutAuto
import Derived.Deep.DeepFit
import Derived.Outline
import Derived.Lib.Hide
import Derived.Deep.Light
import Derived.IntWalk
import Derived.KernelRfl
namespace Go.Proofs.YtcpbdmgkeljkgaaGreatDoor
open Go.RowKit
set_option maxRecDepth 100000

theorem ret_int {k : IntKind} {a b : Int} (h : a = b) : Ending.returned (.int k a) = .returned (.int k b) := by rw [h]
theorem ret_bool {a b : Bool} (h : a = b) : Ending.returned (.bool a) = .returned (.bool b) := by rw [h]

/-- A value, as the document has it. -/
inductive V where
  | mk (k n : Int) (s : ByteArray) (l : List V) (d : List (ByteArray × V))

/-- A value as it lies in memory: with the addresses and capacities of its list and its fields. -/
inductive T where
  | mk (k n : Int) (s : ByteArray) (la : Option Addr) (lc : Nat) (l : List T) (da : Option Addr) (dc : Nat) (d : List (ByteArray × T))

theorem T.ind {P : T → Prop} (h : ∀ k n s la lc l da dc d, (∀ x ∈ l, P x) → (∀ f ∈ d, P f.2) → P (.mk k n s la lc l da dc d)) (t : T) : P t := by
  have main : ∀ m, ∀ t : T, SizeOf.sizeOf t ≤ m → P t := by
    intro m
    induction m with
    | zero => intro t ht; cases t; simp at ht
    | succ m ih =>
      intro t ht
      obtain ⟨k, n, s, la, lc, l, da, dc, d⟩ := t
      refine h _ _ _ _ _ _ _ _ _ (fun x hx => ih x ?_) (fun f hf => ih f.2 ?_)
      · have := List.sizeOf_lt_of_mem hx; simp at ht; omega
      · have h1 := List.sizeOf_lt_of_mem hf
        obtain ⟨f1, f2⟩ := f
        simp at ht h1 ⊢; omega
  exact main _ t (Nat.le_refl _)

theorem V.ind {P : V → Prop} (h : ∀ k n s l d, (∀ x ∈ l, P x) → (∀ f ∈ d, P f.2) → P (.mk k n s l d)) (t : V) : P t := by
  have main : ∀ m, ∀ t : V, SizeOf.sizeOf t ≤ m → P t := by
    intro m
    induction m with
    | zero => intro t ht; cases t; simp at ht
    | succ m ih =>
      intro t ht
      obtain ⟨k, n, s, l, d⟩ := t
      refine h _ _ _ _ _ (fun x hx => ih x ?_) (fun f hf => ih f.2 ?_)
      · have := List.sizeOf_lt_of_mem hx; simp at ht; omega
      · have h1 := List.sizeOf_lt_of_mem hf
        obtain ⟨f1, f2⟩ := f
        simp at ht h1 ⊢; omega
  exact main _ t (Nat.le_refl _)

mutual
def T.val : T → V
  | .mk k n s _ _ l _ _ d => .mk k n s (T.vals l) (T.valsD d)
def T.vals : List T → List V
  | [] => []
  | x :: r => x.val :: T.vals r
def T.valsD : List (ByteArray × T) → List (ByteArray × V)
  | [] => []
  | (s, x) :: r => (s, x.val) :: T.valsD r
end
theorem T.vals_map (l : List T) : T.vals l = l.map T.val := by induction l with
  | nil => rfl
  | cons x r ih => simp [T.vals, ih]
theorem T.valsD_map (l : List (ByteArray × T)) : T.valsD l = l.map fun f => (f.1, f.2.val) := by induction l with
  | nil => rfl
  | cons x r ih => obtain ⟨s, x⟩ := x; simp [T.valsD, ih]
theorem T.val_mk (k n : Int) (s la lc l da dc d) : T.val (.mk k n s la lc l da dc d) = .mk k n s (l.map T.val) (d.map fun f => (f.1, f.2.val)) := by
  rw [T.val, T.vals_map, T.valsD_map]

/-- The five cells of a value. -/
def T.cells : T → List Value
  | .mk k n s la lc l da dc d => [.int .i64 k, .int .i64 n, .string s, .slice la l.length lc, .slice da d.length dc]
def T.arg (t : T) : Value := .agg t.cells.toArray
def fcells (f : ByteArray × T) : List Value := .string f.1 :: f.2.cells
def farg (f : ByteArray × T) : Value := .agg (fcells f).toArray

/-- An address, so many cells on. -/
def at_ (a : Option Addr) (i : Nat) : Addr := match a with
  | some a => ⟨a.block, a.off + i, a.spot⟩
  | none => ⟨0, 0, some 0⟩
/-- Cells one behind another, from an address on. -/
def laid (a : Option Addr) (i : Nat) (cs : List Value) : List (Addr × Value) := cs.mapIdx fun j c => (at_ a (i + j), c)

mutual
/-- All cells that a value's lists reach, with what they hold. -/
def T.places : T → List (Addr × Value)
  | .mk _ _ _ la _ l da _ d => T.placesL la 0 l ++ T.placesD da 0 d
def T.placesL (a : Option Addr) : Nat → List T → List (Addr × Value)
  | _, [] => []
  | i, x :: r => laid a (i * 5) x.cells ++ x.places ++ T.placesL a (i + 1) r
def T.placesD (a : Option Addr) : Nat → List (ByteArray × T) → List (Addr × Value)
  | _, [] => []
  | i, (s, x) :: r => laid a (i * 6) (fcells (s, x)) ++ x.places ++ T.placesD a (i + 1) r
end

/-- A list, fields, a value lie in a world. -/
def InL (w : World) (a : Option Addr) (l : List T) : Prop := ∀ p ∈ T.placesL a 0 l, w.cell? p.1 = some p.2
def InD (w : World) (a : Option Addr) (l : List (ByteArray × T)) : Prop := ∀ p ∈ T.placesD a 0 l, w.cell? p.1 = some p.2
def T.In (w : World) (t : T) : Prop := ∀ p ∈ t.places, w.cell? p.1 = some p.2

theorem T.mem_placesL (a : Option Addr) (l : List T) (p : Addr × Value) : ∀ i, p ∈ T.placesL a i l ↔ ∃ j x, l[j]? = some x ∧ (p ∈ laid a ((i + j) * 5) x.cells ∨ p ∈ x.places) := by
  induction l with
  | nil => intro i; simp [T.placesL]
  | cons x r ih =>
    intro i
    simp only [T.placesL, List.mem_append, ih]
    constructor
    · rintro ((h | h) | ⟨j, y, hj, h⟩)
      · exact ⟨0, x, rfl, .inl (by simpa using h)⟩
      · exact ⟨0, x, rfl, .inr h⟩
      · exact ⟨j + 1, y, by simpa using hj, by rw [show i + (j + 1) = i + 1 + j by omega]; exact h⟩
    · rintro ⟨j, y, hj, h⟩
      cases j with
      | zero =>
        simp at hj
        subst hj
        rcases h with h | h
        · exact .inl (.inl (by simpa using h))
        · exact .inl (.inr h)
      | succ j => exact .inr ⟨j, y, by simpa using hj, by rw [show i + 1 + j = i + (j + 1) by omega]; exact h⟩
theorem T.mem_placesD (a : Option Addr) (l : List (ByteArray × T)) (p : Addr × Value) : ∀ i, p ∈ T.placesD a i l ↔ ∃ j x, l[j]? = some x ∧ (p ∈ laid a ((i + j) * 6) (fcells x) ∨ p ∈ x.2.places) := by
  induction l with
  | nil => intro i; simp [T.placesD]
  | cons x r ih =>
    intro i
    obtain ⟨s, x⟩ := x
    simp only [T.placesD, List.mem_append, ih]
    constructor
    · rintro ((h | h) | ⟨j, y, hj, h⟩)
      · exact ⟨0, _, rfl, .inl (by simpa using h)⟩
      · exact ⟨0, _, rfl, .inr h⟩
      · exact ⟨j + 1, y, by simpa using hj, by rw [show i + (j + 1) = i + 1 + j by omega]; exact h⟩
    · rintro ⟨j, y, hj, h⟩
      cases j with
      | zero =>
        simp at hj
        subst hj
        rcases h with h | h
        · exact .inl (.inl (by simpa using h))
        · exact .inl (.inr h)
      | succ j => exact .inr ⟨j, y, by simpa using hj, by rw [show i + 1 + j = i + (j + 1) by omega]; exact h⟩
theorem mem_laid {a : Option Addr} {i : Nat} {cs : List Value} {p : Addr × Value} : p ∈ laid a i cs ↔ ∃ j c, cs[j]? = some c ∧ p = (at_ a (i + j), c) := by
  simp only [laid, List.mem_iff_getElem?, List.getElem?_mapIdx, Option.map_eq_some_iff]
  exact ⟨fun ⟨j, c, h, e⟩ => ⟨j, c, h, e.symm⟩, fun ⟨j, c, h, e⟩ => ⟨j, c, h, e.symm⟩⟩

theorem InL.elem {w : World} {a : Option Addr} {l : List T} (h : InL w a l) {i : Nat} {x : T} (hi : l[i]? = some x) :
    ∃ b o, a = some ⟨b, o, none⟩ ∧ (∀ j c, x.cells[j]? = some c → w.cell? ⟨b, o + i * 5 + j, none⟩ = some c) ∧ x.In w := by
  have hc : ∀ j c, x.cells[j]? = some c → w.cell? (at_ a (i * 5 + j)) = some c := fun j c hj =>
    h (at_ a (i * 5 + j), c) ((T.mem_placesL _ _ _ _).2 ⟨i, x, hi, .inl (mem_laid.2 ⟨j, c, hj, by simp⟩)⟩)
  have h0 : x.cells[0]? ≠ none := by cases x; simp [T.cells]
  obtain ⟨c0, h0⟩ := Option.ne_none_iff_exists'.1 h0
  have h1 := hc 0 c0 h0
  have hs : ∃ b o, a = some ⟨b, o, none⟩ := by
    rcases a with _ | ⟨b, o, _ | s⟩
    · exfalso; simp only [at_, World.cell?] at h1; split at h1 <;> simp at h1
    · exact ⟨b, o, rfl⟩
    · exfalso; simp only [at_, World.cell?] at h1; split at h1 <;> simp at h1
  obtain ⟨b, o, rfl⟩ := hs
  exact ⟨b, o, rfl, fun j c hj => (by rw [Nat.add_assoc]; exact hc j c hj), fun p hp => h p ((T.mem_placesL _ _ _ _).2 ⟨i, x, hi, .inr hp⟩)⟩
theorem InD.elem {w : World} {a : Option Addr} {l : List (ByteArray × T)} (h : InD w a l) {i : Nat} {x : ByteArray × T} (hi : l[i]? = some x) :
    ∃ b o, a = some ⟨b, o, none⟩ ∧ (∀ j c, (fcells x)[j]? = some c → w.cell? ⟨b, o + i * 6 + j, none⟩ = some c) ∧ x.2.In w := by
  have hc : ∀ j c, (fcells x)[j]? = some c → w.cell? (at_ a (i * 6 + j)) = some c := fun j c hj =>
    h (at_ a (i * 6 + j), c) ((T.mem_placesD _ _ _ _).2 ⟨i, x, hi, .inl (mem_laid.2 ⟨j, c, hj, by simp⟩)⟩)
  have h1 := hc 0 (.string x.1) rfl
  have hs : ∃ b o, a = some ⟨b, o, none⟩ := by
    rcases a with _ | ⟨b, o, _ | s⟩
    · exfalso; simp only [at_, World.cell?] at h1; split at h1 <;> simp at h1
    · exact ⟨b, o, rfl⟩
    · exfalso; simp only [at_, World.cell?] at h1; split at h1 <;> simp at h1
  obtain ⟨b, o, rfl⟩ := hs
  exact ⟨b, o, rfl, fun j c hj => (by rw [Nat.add_assoc]; exact hc j c hj), fun p hp => h p ((T.mem_placesD _ _ _ _).2 ⟨i, x, hi, .inr hp⟩)⟩

/-- The five cells of element i, one by one. -/
theorem InL.five {w : World} {a : Option Addr} {l : List T} (h : InL w a l) {i : Nat} (hi : i < l.length) :
    ∃ b o k n s la lc l' da dc d', a = some ⟨b, o, none⟩ ∧ l[i]? = some (.mk k n s la lc l' da dc d') ∧ T.In w (.mk k n s la lc l' da dc d') ∧
      w.cell? ⟨b, o + i * 5, none⟩ = some (.int .i64 k) ∧ w.cell? ⟨b, o + i * 5 + 1, none⟩ = some (.int .i64 n) ∧ w.cell? ⟨b, o + i * 5 + 2, none⟩ = some (.string s) ∧
      w.cell? ⟨b, o + i * 5 + 3, none⟩ = some (.slice la l'.length lc) ∧ w.cell? ⟨b, o + i * 5 + 4, none⟩ = some (.slice da d'.length dc) := by
  obtain ⟨x, hx⟩ : ∃ x, l[i]? = some x := ⟨_, List.getElem?_eq_getElem hi⟩
  obtain ⟨b, o, ha, hc, hin⟩ := h.elem hx
  obtain ⟨k, n, s, la, lc, l', da, dc, d'⟩ := x
  exact ⟨b, o, k, n, s, la, lc, l', da, dc, d', ha, hx, hin, hc 0 _ rfl, hc 1 _ rfl, hc 2 _ rfl, hc 3 _ rfl, hc 4 _ rfl⟩
/-- The six cells of field i, one by one. -/
theorem InD.six {w : World} {a : Option Addr} {l : List (ByteArray × T)} (h : InD w a l) {i : Nat} (hi : i < l.length) :
    ∃ b o f k n s la lc l' da dc d', a = some ⟨b, o, none⟩ ∧ l[i]? = some (f, .mk k n s la lc l' da dc d') ∧ T.In w (.mk k n s la lc l' da dc d') ∧
      w.cell? ⟨b, o + i * 6, none⟩ = some (.string f) ∧ w.cell? ⟨b, o + i * 6 + 1, none⟩ = some (.int .i64 k) ∧ w.cell? ⟨b, o + i * 6 + 2, none⟩ = some (.int .i64 n) ∧ w.cell? ⟨b, o + i * 6 + 3, none⟩ = some (.string s) ∧
      w.cell? ⟨b, o + i * 6 + 4, none⟩ = some (.slice la l'.length lc) ∧ w.cell? ⟨b, o + i * 6 + 5, none⟩ = some (.slice da d'.length dc) := by
  obtain ⟨x, hx⟩ : ∃ x, l[i]? = some x := ⟨_, List.getElem?_eq_getElem hi⟩
  obtain ⟨b, o, ha, hc, hin⟩ := h.elem hx
  obtain ⟨f, k, n, s, la, lc, l', da, dc, d'⟩ := x
  exact ⟨b, o, f, k, n, s, la, lc, l', da, dc, d', ha, hx, hin, hc 0 _ rfl, hc 1 _ rfl, hc 2 _ rfl, hc 3 _ rfl, hc 4 _ rfl, hc 5 _ rfl⟩

/-- Where a world is as it was at a value's places, the value lies there still. -/
theorem T.In.keep {w w' : World} {t : T} (h : t.In w) (hk : ∀ p ∈ t.places, w'.cell? p.1 = w.cell? p.1) : t.In w' := fun p hp => (hk p hp).trans (h p hp)
theorem cell_lt {w : World} {a : Addr} {v : Value} (h : w.cell? a = some v) : a.block < w.heap.size := by
  rcases Nat.lt_or_ge a.block w.heap.size with hlt | hge
  · exact hlt
  · unfold World.cell? at h; rw [Array.getElem?_eq_none hge] at h; cases h
theorem T.In.below {w w' : World} {t : T} {B : Nat} (h : t.In w) (hB : w.heap.size ≤ B) (hb : Below B w w') : t.In w' :=
  h.keep fun p hp => hb.cell (Nat.lt_of_lt_of_le (cell_lt (h p hp)) hB)
theorem InL.below {w w' : World} {a : Option Addr} {l : List T} {B : Nat} (h : InL w a l) (hB : w.heap.size ≤ B) (hb : Below B w w') : InL w' a l :=
  fun p hp => (hb.cell (Nat.lt_of_lt_of_le (cell_lt (h p hp)) hB)).trans (h p hp)
theorem InD.below {w w' : World} {a : Option Addr} {l : List (ByteArray × T)} {B : Nat} (h : InD w a l) (hB : w.heap.size ≤ B) (hb : Below B w w') : InD w' a l :=
  fun p hp => (hb.cell (Nat.lt_of_lt_of_le (cell_lt (h p hp)) hB)).trans (h p hp)
theorem T.In.parts {w : World} {k n : Int} {s : ByteArray} {la : Option Addr} {lc : Nat} {l : List T} {da : Option Addr} {dc : Nat} {d : List (ByteArray × T)} (h : T.In w (.mk k n s la lc l da dc d)) : InL w la l ∧ InD w da d :=
  ⟨fun p hp => h p (by simp [T.places, hp]), fun p hp => h p (by simp [T.places, hp])⟩
theorem T.In.of_parts {w : World} {k n : Int} {s : ByteArray} {la : Option Addr} {lc : Nat} {l : List T} {da : Option Addr} {dc : Nat} {d : List (ByteArray × T)} (h1 : InL w la l) (h2 : InD w da d) : T.In w (.mk k n s la lc l da dc d) := by
  intro p hp
  simp only [T.places, List.mem_append] at hp
  exact hp.elim (h1 p) (h2 p)

theorem below1 (w : World) (x : Obj) : Below w.heap.size w (w.alloc x) := (Below.refl _ _).alloc (Nat.le_refl _) _
theorem below2 (w : World) (x y : Obj) : Below w.heap.size w ((w.alloc x).alloc y) := (below1 w x).alloc (by simp) _
theorem below3 (w : World) (x y z : Obj) : Below w.heap.size w (((w.alloc x).alloc y).alloc z) := (below2 w x y).alloc (by simp; omega) _
theorem below_then {w w0 w' : World} (g : Below w.heap.size w w0) (h : Below w0.heap.size w0 w') : Below w.heap.size w w' := g.trans (h.mono g.size)
theorem T.In.then_ {w w' : World} {t : T} (h : t.In w) (g : Below w.heap.size w w') : t.In w' := h.below (Nat.le_refl _) g
theorem InL.then_ {w w' : World} {a : Option Addr} {l : List T} (h : InL w a l) (g : Below w.heap.size w w') : InL w' a l := h.below (Nat.le_refl _) g
theorem InD.then_ {w w' : World} {a : Option Addr} {l : List (ByteArray × T)} (h : InD w a l) (g : Below w.heap.size w w') : InD w' a l := h.below (Nat.le_refl _) g

theorem T.In.drew' {w : World} {t : T} (h : t.In w) : t.In w.drew := h
theorem InL.drew' {w : World} {a : Option Addr} {l : List T} (h : InL w a l) : InL w.drew a l := h
theorem InD.drew' {w : World} {a : Option Addr} {l : List (ByteArray × T)} (h : InD w a l) : InD w.drew a l := h

/-- The bounds that each reading of the arguments gives. -/
def okInt (n : Int) : Prop := -9223372036854775808 ≤ n ∧ n ≤ 9223372036854775807
def okLen (n : Nat) : Prop := n ≤ 140737488351232
def okFar (n : Nat) : Prop := n ≤ 140737488355328
theorem okLen.far {n : Nat} (h : okLen n) : okFar n := by unfold okLen at h; unfold okFar; omega
mutual
def T.ok : T → Prop
  | .mk k n s la lc l da dc d => okInt k ∧ okInt n ∧ okLen s.size ∧ (l.length ≤ lc ∧ lc ≤ 9223372036854775807) ∧ okLen (l.length * 80) ∧ (la = none → lc = 0) ∧ (d.length ≤ dc ∧ dc ≤ 9223372036854775807) ∧ okFar (d.length * 96) ∧ (da = none → dc = 0) ∧ T.okL l ∧ T.okD d
def T.okL : List T → Prop
  | [] => True
  | x :: r => x.ok ∧ T.okL r
def T.okD : List (ByteArray × T) → Prop
  | [] => True
  | (s, x) :: r => okLen s.size ∧ x.ok ∧ T.okD r
end
theorem T.okL_iff (l : List T) : T.okL l ↔ ∀ x ∈ l, x.ok := by induction l with
  | nil => simp [T.okL]
  | cons x r ih => simp [T.okL, ih]
theorem T.okD_iff (l : List (ByteArray × T)) : T.okD l ↔ ∀ f ∈ l, okLen f.1.size ∧ f.2.ok := by induction l with
  | nil => simp [T.okD]
  | cons x r ih => obtain ⟨s, x⟩ := x; simp [T.okD, ih, and_assoc]
mutual
/-- Fields, in all depths, that leave room for so many more. -/
def V.room (m : Nat) : V → Prop
  | .mk _ _ _ l d => (d.length + m) * 96 ≤ 140737488355328 ∧ V.roomL m l ∧ V.roomD m d
def V.roomL (m : Nat) : List V → Prop
  | [] => True
  | x :: r => x.room m ∧ V.roomL m r
def V.roomD (m : Nat) : List (ByteArray × V) → Prop
  | [] => True
  | (_, x) :: r => x.room m ∧ V.roomD m r
end
theorem V.roomL_iff (m : Nat) (l : List V) : V.roomL m l ↔ ∀ x ∈ l, x.room m := by induction l with
  | nil => simp [V.roomL]
  | cons x r ih => simp [V.roomL, ih]
theorem V.roomD_iff (m : Nat) (l : List (ByteArray × V)) : V.roomD m l ↔ ∀ f ∈ l, f.2.room m := by induction l with
  | nil => simp [V.roomD]
  | cons x r ih => obtain ⟨s, x⟩ := x; simp [V.roomD, ih]
theorem V.room_mk (m : Nat) (k n : Int) (s : ByteArray) (l : List V) (d : List (ByteArray × V)) : V.room m (.mk k n s l d) ↔ (d.length + m) * 96 ≤ 140737488355328 ∧ (∀ x ∈ l, x.room m) ∧ ∀ f ∈ d, f.2.room m := by
  rw [V.room, V.roomL_iff, V.roomD_iff]
theorem V.room.less {m m' : Nat} (v : V) (hm : m' ≤ m) : v.room m → v.room m' := by
  induction v using V.ind with
  | h k n s l d ihl ihd =>
  rw [V.room_mk, V.room_mk]
  exact fun ⟨h1, h2, h3⟩ => ⟨Nat.le_trans (Nat.mul_le_mul_right 96 (by omega)) h1, fun x hx => ihl x hx (h2 x hx), fun f hf => ihd f hf (h3 f hf)⟩
theorem T.room_mk (m : Nat) (k n : Int) (s : ByteArray) (la : Option Addr) (lc : Nat) (l : List T) (da : Option Addr) (dc : Nat) (d : List (ByteArray × T)) : V.room m (T.val (.mk k n s la lc l da dc d)) ↔ (d.length + m) * 96 ≤ 140737488355328 ∧ (∀ x ∈ l, x.val.room m) ∧ ∀ f ∈ d, f.2.val.room m := by
  rw [T.val_mk, V.room_mk]
  simp only [List.length_map, List.mem_map]
  exact ⟨fun ⟨h1, h2, h3⟩ => ⟨h1, fun x hx => h2 _ ⟨x, hx, rfl⟩, fun f hf => h3 _ ⟨f, hf, rfl⟩⟩, fun ⟨h1, h2, h3⟩ => ⟨h1, fun x ⟨y, hy, e⟩ => e ▸ h2 y hy, fun f ⟨y, hy, e⟩ => e ▸ h3 y hy⟩⟩
/-- What a value's own bounds give, as a walk wants it. -/
theorem T.ok.parts {k n : Int} {s : ByteArray} {la : Option Addr} {lc : Nat} {l : List T} {da : Option Addr} {dc : Nat} {d : List (ByteArray × T)} (h : T.ok (.mk k n s la lc l da dc d)) :
    -9223372036854775808 ≤ k ∧ k ≤ 9223372036854775807 ∧ -9223372036854775808 ≤ n ∧ n ≤ 9223372036854775807 ∧ s.size ≤ 140737488351232 ∧ l.length ≤ lc ∧ l.length * 80 ≤ 140737488351232 ∧ d.length ≤ dc ∧ d.length * 96 ≤ 140737488355328 ∧ (∀ x ∈ l, x.ok) ∧ (∀ f ∈ d, okLen f.1.size ∧ f.2.ok) := by
  simp only [T.ok, T.okL_iff, T.okD_iff, okInt, okLen, okFar] at h
  obtain ⟨⟨h1, h2⟩, ⟨h3, h4⟩, h5, ⟨h6, _⟩, h7, _, ⟨h8, _⟩, h9, _, h10, h11⟩ := h
  exact ⟨h1, h2, h3, h4, h5, h6, h7, h8, h9, h10, h11⟩
end Go.Proofs.YtcpbdmgkeljkgaaGreatDoor
