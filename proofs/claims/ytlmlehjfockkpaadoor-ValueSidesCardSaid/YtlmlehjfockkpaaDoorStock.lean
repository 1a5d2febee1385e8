/- Plain words for a long law's walk: what lies in boxes, what is owned, what is lent. No statement is proved here. -/
import Derived.Test.YtlmlehjfockkpaaDoorWithout
import Derived.Test.YtlmlehjfockkpaaDoorKept
import Derived.Test.YtlmlehjfockkpaaDoorLawCmp
namespace Go.Proofs.YtlmlehjfockkpaaDoor
open Go.RowKit
set_option maxRecDepth 100000

/-- What a law has at hand: boxes with what they hold; values of its own and values that it has lent, each with the blocks between which they lie. -/
structure Stock (w0 w : World) (bx : List (Nat × List Value)) (ow mk : List (Nat × Nat × T)) : Prop where
  below : Below w0.heap.size w0 w
  box : ∀ p ∈ bx, w.heap[p.1]? = some (.cells p.2.toArray 25 (0, 0))
  own : ∀ p ∈ ow, p.2.2.Own w p.1 ∧ ∀ b ∈ blocksOf p.2.2.rows, b < p.2.1
  mark : ∀ p ∈ mk, p.2.2.Marked w p.1 ∧ ∀ b ∈ blocksOf p.2.2.mrows, b < p.2.1
theorem Stock.then_ {w0 w w' : World} {bx : List (Nat × List Value)} {ow mk : List (Nat × Nat × T)} (h : Stock w0 w bx ow mk) (hb : Below w.heap.size w w') : Stock w0 w' bx ow mk :=
  ⟨below_then h.below hb, fun p hp => row_then (h.box p hp) hb, fun p hp => ⟨(h.own p hp).1.keep (Only.of_below (S := []) hb) (by simp) (Nat.le_refl _), (h.own p hp).2⟩, fun p hp => ⟨(h.mark p hp).1.then_ hb, (h.mark p hp).2⟩⟩
theorem Stock.start (w : World) : Stock w w [] [] [] := ⟨Below.refl _ _, by simp, by simp, by simp⟩
theorem Stock.box_add {w0 w : World} {bx : List (Nat × List Value)} {ow mk : List (Nat × Nat × T)} (h : Stock w0 w bx ow mk) (cs : List Value) : Stock w0 (w.alloc (.cells cs.toArray 25)) ((w.heap.size, cs) :: bx) ow mk := by
  obtain ⟨h1, h2, h3, h4⟩ := h.then_ (below1 w (.cells cs.toArray 25))
  refine ⟨h1, fun p hp => ?_, h3, h4⟩
  rcases List.mem_cons.1 hp with rfl | hp
  · exact heap_alloc_new w _
  · exact h2 p hp
theorem Stock.own_add {w0 w w' : World} {bx : List (Nat × List Value)} {ow mk : List (Nat × Nat × T)} {t : T} (h : Stock w0 w bx ow mk) (hb : Below w.heap.size w w') (ho : t.Own w' w.heap.size) : Stock w0 w' bx ((w.heap.size, w'.heap.size, t) :: ow) mk := by
  obtain ⟨h1, h2, h3, h4⟩ := h.then_ hb
  refine ⟨h1, h2, fun p hp => ?_, h4⟩
  rcases List.mem_cons.1 hp with rfl | hp
  · exact ⟨ho, fun b hb => (owns_lt ho.owns b hb).2⟩
  · exact h3 p hp
theorem Stock.mark_add {w0 w w' : World} {bx : List (Nat × List Value)} {ow mk : List (Nat × Nat × T)} {t : T} (h : Stock w0 w bx ow mk) (hb : Below w.heap.size w w') (ho : t.Marked w' w.heap.size) : Stock w0 w' bx ow ((w.heap.size, w'.heap.size, t) :: mk) := by
  obtain ⟨h1, h2, h3, h4⟩ := h.then_ hb
  refine ⟨h1, h2, h3, fun p hp => ?_⟩
  rcases List.mem_cons.1 hp with rfl | hp
  · exact ⟨ho, fun b hb => (owns_lt ho.owns b hb).2⟩
  · exact h4 p hp
theorem Stock.only {w0 w w' : World} {bx : List (Nat × List Value)} {ow mk : List (Nat × Nat × T)} {S : List Nat} (lo hi : Nat) (h : Stock w0 w bx ow mk) (ho : Only S w w') (hS : ∀ b ∈ S, lo ≤ b ∧ b < hi) (h0 : w0.heap.size ≤ lo)
    (hbx : ∀ p ∈ bx, p.1 < lo ∨ hi ≤ p.1) (how : ∀ p ∈ ow, p.2.1 ≤ lo ∨ hi ≤ p.1) (hmk : ∀ p ∈ mk, p.2.1 ≤ lo ∨ hi ≤ p.1) : Stock w0 w' bx ow mk := by
  obtain ⟨h1, h2, h3, h4⟩ := h
  refine ⟨((Only.of_below (S := []) h1).then_ ho (fun i hi' => .inr (by have := hS i hi'; omega))).below, fun p hp => keep_row ho (h2 p hp) (fun hc => by have := hS _ hc; have := hbx p hp; omega), fun p hp => ⟨?_, (h3 p hp).2⟩, fun p hp => ⟨?_, (h4 p hp).2⟩⟩
  · exact (h3 p hp).1.apart ho (fun b hb hc => by have := hS b hc; have := (h3 p hp).2 b hb; have := (owns_lt (h3 p hp).1.owns b hb).1; have := how p hp; omega) (Nat.le_refl _)
  · exact (h4 p hp).1.only ho (fun b hb hc => by have := hS b hc; have := (h4 p hp).2 b hb; have := (owns_lt (h4 p hp).1.owns b hb).1; have := hmk p hp; omega)
theorem Stock.sub {w0 w : World} {bx bx' : List (Nat × List Value)} {ow mk ow' mk' : List (Nat × Nat × T)} (h : Stock w0 w bx ow mk) (h1 : ∀ p ∈ bx', p ∈ bx) (h2 : ∀ p ∈ ow', p ∈ ow) (h3 : ∀ p ∈ mk', p ∈ mk) : Stock w0 w bx' ow' mk' :=
  ⟨h.below, fun p hp => h.box p (h1 p hp), fun p hp => h.own p (h2 p hp), fun p hp => h.mark p (h3 p hp)⟩
theorem Stock.cells {w0 w : World} {bx : List (Nat × List Value)} {ow mk : List (Nat × Nat × T)} {g : Nat} {cs : List Value} (h : Stock w0 w bx ow mk) (hp : (g, cs) ∈ bx) : ∀ o, w.cell? ⟨g, o, none⟩ = (cs.toArray : Array Value)[o]? := row_cells (h.box _ hp)
theorem Stock.rangeO {w0 w : World} {bx : List (Nat × List Value)} {ow mk : List (Nat × Nat × T)} {lo hi : Nat} {t : T} (h : Stock w0 w bx ow mk) (hp : (lo, hi, t) ∈ ow) : ∀ b ∈ blocksOf t.rows, lo ≤ b ∧ b < hi := fun b hb => ⟨(owns_lt (h.own _ hp).1.owns b hb).1, (h.own _ hp).2 b hb⟩
theorem Stock.rangeM {w0 w : World} {bx : List (Nat × List Value)} {ow mk : List (Nat × Nat × T)} {lo hi : Nat} {t : T} (h : Stock w0 w bx ow mk) (hp : (lo, hi, t) ∈ mk) : ∀ b ∈ blocksOf t.mrows, lo ≤ b ∧ b < hi := fun b hb => ⟨(owns_lt (h.mark _ hp).1.owns b hb).1, (h.mark _ hp).2 b hb⟩

theorem m0 {α : Type} {x : α} {l : List α} : x ∈ x :: l := List.mem_cons_self ..
theorem m1 {α : Type} {x a : α} {l : List α} : x ∈ a :: x :: l := List.mem_cons_of_mem _ m0
theorem m2 {α : Type} {x a b : α} {l : List α} : x ∈ a :: b :: x :: l := List.mem_cons_of_mem _ m1
theorem m3 {α : Type} {x a b c : α} {l : List α} : x ∈ a :: b :: c :: x :: l := List.mem_cons_of_mem _ m2
theorem m4 {α : Type} {x a b c d : α} {l : List α} : x ∈ a :: b :: c :: d :: x :: l := List.mem_cons_of_mem _ m3
theorem m5 {α : Type} {x a b c d e : α} {l : List α} : x ∈ a :: b :: c :: d :: e :: x :: l := List.mem_cons_of_mem _ m4
theorem m6 {α : Type} {x a b c d e f : α} {l : List α} : x ∈ a :: b :: c :: d :: e :: f :: x :: l := List.mem_cons_of_mem _ m5
theorem m7 {α : Type} {x a b c d e f g : α} {l : List α} : x ∈ a :: b :: c :: d :: e :: f :: g :: x :: l := List.mem_cons_of_mem _ m6
theorem m8 {α : Type} {x a b c d e f g h : α} {l : List α} : x ∈ a :: b :: c :: d :: e :: f :: g :: h :: x :: l := List.mem_cons_of_mem _ m7
theorem m9 {α : Type} {x a b c d e f g h i : α} {l : List α} : x ∈ a :: b :: c :: d :: e :: f :: g :: h :: i :: x :: l := List.mem_cons_of_mem _ m8
theorem all_cons {α : Type} {P : α → Prop} {a : α} {l : List α} (h : P a) (k : ∀ x ∈ l, P x) : ∀ x ∈ a :: l, P x := fun x hx => (List.mem_cons.1 hx).elim (fun e => e ▸ h) (k x)
theorem all_nil {α : Type} {P : α → Prop} : ∀ x ∈ ([] : List α), P x := fun _ h => by cases h

/-- Get, in one form. -/
def GetsOne (v : V) (s : ByteArray) (w : World) (e : Ending) (w' : World) : Prop :=
  ∃ t' : T, e = .returned (.tuple #[t'.arg, .bool (getV v s).isSome]) ∧ t'.val = (getV v s).getD zeroV ∧ t'.Own w' w.heap.size ∧ Below w.heap.size w w'
theorem gets_one {v : V} {s : ByteArray} {w : World} {e : Ending} {w' : World} (h : GetsTo v s w e w') : GetsOne v s w e w' := by
  rcases h with ⟨h1, h2, h3⟩ | ⟨t', h1, h2, h3, h4⟩
  · exact ⟨zeroT, by rw [h1, h2]; rfl, by rw [h1, zero_val]; rfl, zero_own _ _, h3⟩
  · exact ⟨t', by rw [h1, h2]; rfl, by rw [h1]; rfl, h3, h4⟩

theorem zeroV_room (m : Nat) (hm : m ≤ 1000) : zeroV.room m := by
  rw [zeroV, V.room_mk]
  exact ⟨by simp; omega, by simp, by simp⟩
theorem findD_room {m : Nat} {s : ByteArray} : ∀ (d : List (ByteArray × V)), (∀ f ∈ d, f.2.room m) → ∀ x, findD d s = some x → x.room m := by
  intro d
  induction d with
  | nil => intro _ x h; cases h
  | cons y r ih =>
    obtain ⟨f, y⟩ := y
    intro h x hx
    rw [findD] at hx
    split at hx
    · injection hx with hx; subst hx; exact h (f, y) (List.mem_cons_self ..)
    · exact ih (fun f hf => h f (List.mem_cons_of_mem _ hf)) x hx
theorem getV_room {m : Nat} {v : V} {s : ByteArray} (hm : m ≤ 1000) (h : v.room m) : ((getV v s).getD zeroV).room m := by
  obtain ⟨k, n, t, l, d⟩ := v
  rw [V.room_mk] at h
  rw [getV]
  split
  · cases hf : findD d s with
    | none => exact zeroV_room m hm
    | some x => exact findD_room d h.2.2 x hf
  · exact zeroV_room m hm
theorem putD_len (d : List (ByteArray × V)) (s : ByteArray) (y : V) : (putD d s y).length ≤ d.length + 1 := by
  induction d with
  | nil => simp [putD]
  | cons z r ih =>
    obtain ⟨f, z⟩ := z
    rw [putD]
    split
    · simp
    · simp; omega
theorem putD_mem {d : List (ByteArray × V)} {s : ByteArray} {y : V} {P : V → Prop} (hd : ∀ f ∈ d, P f.2) (hy : P y) : ∀ f ∈ putD d s y, P f.2 := by
  induction d with
  | nil => intro f hf; simp [putD] at hf; subst hf; exact hy
  | cons z r ih =>
    obtain ⟨g, z⟩ := z
    rw [putD]
    split
    · exact all_cons hy (fun f hf => hd f (List.mem_cons_of_mem _ hf))
    · exact all_cons (hd (g, z) (List.mem_cons_self ..)) (ih fun f hf => hd f (List.mem_cons_of_mem _ hf))
theorem withV_room {m : Nat} {v y : V} {s : ByteArray} (hm : m ≤ 1000) (h : v.room (m + 1)) (hy : y.room m) : (withV v s y).room m := by
  obtain ⟨k, n, t, l, d⟩ := v
  have h' := V.room.less _ (Nat.le_succ m) h
  rw [V.room_mk] at h h'
  rw [withV]
  split
  · rw [V.room_mk]
    have := putD_len d s y
    exact ⟨by omega, h'.2.1, putD_mem h'.2.2 hy⟩
  · exact zeroV_room m hm
theorem withoutV_room {m : Nat} {v : V} {s : ByteArray} (hm : m ≤ 1000) (h : v.room m) : (withoutV v s).room m := by
  obtain ⟨k, n, t, l, d⟩ := v
  rw [V.room_mk] at h
  rw [withoutV]
  split
  · rw [V.room_mk]
    have := List.length_filter_le (fun f : ByteArray × V => other s f.1) d
    exact ⟨by omega, h.2.1, fun f hf => h.2.2 f (List.mem_filter.1 hf).1⟩
  · exact zeroV_room m hm
theorem same_self {v v' : V} (h : v = v') : sameV v v' = true := (sameV_iff v v').2 h
end Go.Proofs.YtlmlehjfockkpaaDoor
