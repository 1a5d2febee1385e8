/- The contract of the document's own Size: no statement is proved here. -/
import Derived.Test.YtkklnfihjikilaaDoorSize
import Derived.Test.YtkklnfihjikilaaDoorSame
namespace Go.Proofs.YtkklnfihjikilaaDoor
open Go.RowKit
set_option maxRecDepth 100000

mutual
/-- How much is left of some bytes behind a value's. -/
def leftV (room : Int) : V → Int
  | .mk k _ s l d =>
    if k = 3 ∨ k = 10 then room - 8 else
    if k = 4 ∨ k = 7 then (if 65536 < (s.size : Int) then -1 else room - 5 - s.size) else
    if k = 8 then room - 12 else
    if k = 9 then room - 1 else
    if k = 5 then leftD (room - 5) d else
    if k = 6 then leftL (room - 5) 0 l else room
def leftL (room : Int) (i : Nat) : List V → Int
  | [] => room
  | x :: r => if room < 0 then room else leftL (leftV (room - 2 - digN i) x) (i + 1) r
def leftD (room : Int) : List (ByteArray × V) → Int
  | [] => room
  | (s, x) :: r => if room < 0 then room else if 65536 < (s.size : Int) then -1 else leftD (leftV (room - 2 - s.size) x) r
end
theorem leftL_neg {n : Int} (h : n < 0) (i : Nat) (l : List V) : leftL n i l = n := by cases l <;> simp [leftL, h]
theorem leftD_neg {n : Int} (h : n < 0) (l : List (ByteArray × V)) : leftD n l = n := by cases l <;> simp [leftD, h]
theorem leftL_step {n : Int} (h : ¬ n < 0) {l : List V} {k : Nat} {x : V} (hx : l[k]? = some x) : leftL n k (l.drop k) = leftL (leftV (n - 2 - digN k) x) (k + 1) (l.drop (k + 1)) := by
  obtain ⟨h1, rfl⟩ := List.getElem?_eq_some_iff.1 hx
  rw [List.drop_eq_getElem_cons h1, leftL, if_neg h]
theorem leftD_step {n : Int} (h : ¬ n < 0) {l : List (ByteArray × V)} {k : Nat} {x : ByteArray × V} (hx : l[k]? = some x) : leftD n (l.drop k) = if 65536 < (x.1.size : Int) then -1 else leftD (leftV (n - 2 - x.1.size) x.2) (l.drop (k + 1)) := by
  obtain ⟨h1, rfl⟩ := List.getElem?_eq_some_iff.1 hx
  rw [List.drop_eq_getElem_cons h1, leftD, if_neg h]
theorem leftL_done {n : Int} {k : Nat} {l : List V} (h : l.length ≤ k) : leftL n k (l.drop k) = n := by rw [List.drop_eq_nil_of_le h, leftL]
theorem leftD_done {n : Int} {k : Nat} {l : List (ByteArray × V)} (h : l.length ≤ k) : leftD n (l.drop k) = n := by rw [List.drop_eq_nil_of_le h, leftD]

/-- What is left never comes far below 0. -/
def Low (v : V) : Prop := ∀ room : Int, -65600 ≤ room → room ≤ 65536 → -131200 ≤ leftV room v ∧ leftV room v ≤ 65536
theorem lowL {l : List V} (ih : ∀ x ∈ l, Low x) : ∀ (i : Nat) (n : Int), -131200 ≤ n → n ≤ 65536 → i + l.length ≤ 1000000000000000 → -131200 ≤ leftL n i l ∧ leftL n i l ≤ 65536 := by
  induction l with
  | nil => intro i n h0 h _; rw [leftL]; exact ⟨h0, h⟩
  | cons x r ihr =>
    intro i n h0 h hi
    rw [leftL]
    split
    · exact ⟨by omega, h⟩
    · simp at hi
      have hd := digN_small 15 i (by simp; omega)
      obtain ⟨g1, g2⟩ := ih x (by simp) (n - 2 - digN i) (by omega) (by omega)
      exact ihr (fun y hy => ih y (by simp [hy])) (i + 1) _ g1 g2 (by omega)
theorem lowD {l : List (ByteArray × V)} (ih : ∀ f ∈ l, Low f.2) : ∀ (n : Int), -131200 ≤ n → n ≤ 65536 → -131200 ≤ leftD n l ∧ leftD n l ≤ 65536 := by
  induction l with
  | nil => intro n h0 h; rw [leftD]; exact ⟨h0, h⟩
  | cons x r ihr =>
    intro n h0 h
    obtain ⟨s, x⟩ := x
    rw [leftD]
    split
    · exact ⟨by omega, h⟩
    · split
      · exact ⟨by omega, by omega⟩
      · obtain ⟨g1, g2⟩ := ih (s, x) (by simp) (n - 2 - s.size) (by omega) (by omega)
        exact ihr (fun y hy => ih y (by simp [hy])) _ g1 g2
theorem low_any (t : T) : t.ok → Low t.val := by
  induction t using T.ind with
  | h k m s la lc l da dc d ihl ihd =>
  intro ok n h0 hn
  obtain ⟨-, -, -, -, hs, hl1, hl2, hd1, hd2, okl, okd⟩ := ok.parts
  rw [T.val_mk, leftV]
  split; · omega
  split
  · split <;> omega
  split; · omega
  split; · omega
  split
  · exact lowD (by intro f hf; obtain ⟨g, hg, rfl⟩ := List.mem_map.1 hf; exact ihd g hg (okd g hg).2) (n - 5) (by omega) (by omega)
  split
  · exact lowL (by intro x hx; obtain ⟨y, hy, rfl⟩ := List.mem_map.1 hx; exact ihl y hy (okl y hy)) 0 (n - 5) (by omega) (by omega) (by simp; omega)
  · omega

/-- The program's count, and what is left. -/
def Fit (n f g : Int) : Prop := n ≤ f ∧ (f ≤ 65536 → g = 65536 - f) ∧ (65536 < f → g < 0)
theorem fitL {l : List V} (ih : ∀ x ∈ l, ∀ n : Int, 0 ≤ n → Fit n (szFrom n x) (leftV (65536 - n) x)) : ∀ (i : Nat) (n : Int), 0 ≤ n → ∀ g, (n ≤ 65536 → g = 65536 - n) → (65536 < n → g < 0) → Fit n (szL n i l) (leftL g i l) := by
  induction l with
  | nil => intro i n h0 g h1 h2; rw [szL, leftL]; exact ⟨by omega, h1, h2⟩
  | cons x r ihr =>
    intro i n h0 g h1 h2
    by_cases hb : 65536 < n
    · rw [szL_big hb, leftL_neg (h2 hb)]; exact ⟨by omega, h1, h2⟩
    · have hg := h1 (by omega)
      subst hg
      rw [szL, if_neg hb, leftL, if_neg (by omega)]
      have hd := digN_pos i
      obtain ⟨f1, f2, f3⟩ := ih x (by simp) (n + 2 + digN i) (by omega)
      rw [show (65536 : Int) - (n + 2 + digN i) = 65536 - n - 2 - digN i by omega] at f2 f3
      obtain ⟨g1, g2, g3⟩ := ihr (fun y hy => ih y (by simp [hy])) (i + 1) (szFrom (n + 2 + digN i) x) (by omega) _ f2 f3
      exact ⟨by omega, g2, g3⟩
theorem fitD {l : List (ByteArray × V)} (ih : ∀ f ∈ l, ∀ n : Int, 0 ≤ n → Fit n (szFrom n f.2) (leftV (65536 - n) f.2)) : ∀ (n : Int), 0 ≤ n → ∀ g, (n ≤ 65536 → g = 65536 - n) → (65536 < n → g < 0) → Fit n (szD n l) (leftD g l) := by
  induction l with
  | nil => intro n h0 g h1 h2; rw [szD, leftD]; exact ⟨by omega, h1, h2⟩
  | cons x r ihr =>
    intro n h0 g h1 h2
    obtain ⟨s, x⟩ := x
    by_cases hb : 65536 < n
    · rw [szD_big hb, leftD_neg (h2 hb)]; exact ⟨by omega, h1, h2⟩
    · have hg := h1 (by omega)
      subst hg
      rw [szD, if_neg hb, leftD, if_neg (by omega)]
      obtain ⟨f1, f2, f3⟩ := ih (s, x) (by simp) (n + 2 + s.size) (by omega)
      simp only at f1 f2 f3
      rw [show (65536 : Int) - (n + 2 + s.size) = 65536 - n - 2 - s.size by omega] at f2 f3
      obtain ⟨g1, g2, g3⟩ := ihr (fun y hy => ih y (by simp [hy])) (szFrom (n + 2 + s.size) x) (by omega) _ f2 f3
      by_cases hs : 65536 < (s.size : Int)
      · rw [if_pos hs]; exact ⟨by omega, by omega, by omega⟩
      · rw [if_neg hs]; exact ⟨by omega, g2, g3⟩
theorem fit_any (v : V) : ∀ n : Int, 0 ≤ n → Fit n (szFrom n v) (leftV (65536 - n) v) := by
  induction v using V.ind with
  | h k m s l d ihl ihd =>
  intro n h0
  rw [szFrom, leftV]
  by_cases c1 : k = 3 ∨ k = 10
  · rw [if_pos c1, if_pos c1]; exact ⟨by omega, by omega, by omega⟩
  rw [if_neg c1, if_neg c1]
  by_cases c2 : k = 4 ∨ k = 7
  · rw [if_pos c2, if_pos c2]
    by_cases hs : 65536 < (s.size : Int)
    · rw [if_pos hs]; exact ⟨by omega, by omega, by omega⟩
    · rw [if_neg hs]; exact ⟨by omega, by omega, by omega⟩
  rw [if_neg c2, if_neg c2]
  by_cases c3 : k = 8
  · rw [if_pos c3, if_pos c3]; exact ⟨by omega, by omega, by omega⟩
  rw [if_neg c3, if_neg c3]
  by_cases c4 : k = 9
  · rw [if_pos c4, if_pos c4]; exact ⟨by omega, by omega, by omega⟩
  rw [if_neg c4, if_neg c4]
  by_cases c5 : k = 5
  · rw [if_pos c5, if_pos c5]
    obtain ⟨g1, g2, g3⟩ := fitD ihd (n + 5) (by omega) (65536 - n - 5) (by omega) (by omega)
    exact ⟨by omega, g2, g3⟩
  rw [if_neg c5, if_neg c5]
  by_cases c6 : k = 6
  · rw [if_pos c6, if_pos c6]
    obtain ⟨g1, g2, g3⟩ := fitL ihl 0 (n + 5) (by omega) (65536 - n - 5) (by omega) (by omega)
    exact ⟨by omega, g2, g3⟩
  rw [if_neg c6, if_neg c6]
  exact ⟨by omega, by omega, by omega⟩
theorem size_left (v : V) : sizeV v = if leftV 65536 v < 0 then 65537 else 65536 - leftV 65536 v := by
  obtain ⟨g1, g2, g3⟩ := fit_any v 0 (by omega)
  rw [show (65536 : Int) - 0 = 65536 by omega] at g2 g3
  unfold sizeV
  by_cases h : 65536 < szFrom 0 v
  · have := g3 h
    rw [if_pos this]
    split <;> omega
  · have := g2 (by omega)
    rw [if_neg (by omega), if_neg (by omega)]
    omega

def Box1 (w wr : World) (a : T) : Prop := Below w.heap.size w wr ∧ wr.heap[w.heap.size]? = some (.cells a.cells.toArray 31 (0, 0))
theorem Box1.then_ {w wr w' : World} {a : T} (h : Box1 w wr a) (hb : Below wr.heap.size wr w') : Box1 w w' a := ⟨below_then h.1 hb, row_then h.2 hb⟩
theorem Box1.start (w : World) (a : T) : Box1 w (w.alloc (.cells a.cells.toArray 31)) a := ⟨below1 _ _, heap_alloc_new _ _⟩

end Go.Proofs.YtkklnfihjikilaaDoor
