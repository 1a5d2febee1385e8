/- The contracts of Get and of what it calls: no statement is proved here. -/
import Derived.Test.YtjfgmcmnpekahaaDoorClone
namespace Go.Proofs.YtjfgmcmnpekahaaDoor
open Go.RowKit
set_option maxRecDepth 100000

/-- Where the first field of that name stands, counted from i. -/
def idxD : List (ByteArray × V) → ByteArray → Nat → Int
  | [], _, _ => -1
  | (f, _) :: r, s, i => if f.toList == s.toList then i else idxD r s (i + 1)
theorem idxD_step {l : List (ByteArray × V)} {s : ByteArray} {k : Nat} {x : ByteArray × V} (hx : l[k]? = some x) : idxD (l.drop k) s k = if x.1.toList == s.toList then (k : Int) else idxD (l.drop (k + 1)) s (k + 1) := by
  obtain ⟨h1, rfl⟩ := List.getElem?_eq_some_iff.1 hx
  rw [List.drop_eq_getElem_cons h1, idxD]
theorem idxD_done {l : List (ByteArray × V)} {s : ByteArray} {k : Nat} (h : l.length ≤ k) : idxD (l.drop k) s k = -1 := by rw [List.drop_eq_nil_of_le h, idxD]

/-- Where a value's first field of that name stands; -1, where there is none. -/
def placeV : V → ByteArray → Int
  | .mk k _ _ _ d, s => if k = 5 then idxD d s 0 else -1
/-- The first field of that name. -/
def findD : List (ByteArray × V) → ByteArray → Option V
  | [], _ => none
  | (f, x) :: r, s => if f.toList == s.toList then some x else findD r s
def getV : V → ByteArray → Option V
  | .mk k _ _ _ d, s => if k = 5 then findD d s else none
theorem idxD_find (l : List (ByteArray × V)) (s : ByteArray) : ∀ i : Nat, (idxD l s i = -1 ∧ findD l s = none) ∨ (∃ (j : Nat) (x : ByteArray × V), idxD l s i = ((i + j : Nat) : Int) ∧ l[j]? = some x ∧ findD l s = some x.2) := by
  induction l with
  | nil => intro i; exact .inl ⟨rfl, rfl⟩
  | cons y r ih =>
    obtain ⟨f, x⟩ := y
    intro i
    simp only [idxD, findD]
    by_cases h : (f.toList == s.toList) = true
    · exact .inr ⟨0, (f, x), by simp [h], rfl, by simp [h]⟩
    · rw [if_neg h, if_neg h]
      rcases ih (i + 1) with h1 | ⟨j, y, h1, h2, h3⟩
      · exact .inl h1
      · exact .inr ⟨j + 1, y, by rw [h1]; omega, by simpa using h2, h3⟩

theorem T.Own.keep {w w' : World} {B B' : Nat} {t : T} {S : List Nat} (h : t.Own w B) (ho : Only S w w') (hS : ∀ b ∈ S, b < B) (hB : B' ≤ B) : t.Own w' B' :=
  ⟨h.ok, (h.owns.only ho (fun b hb hs => by have := (owns_lt h.owns b hb).1; have := hS b hs; omega)).base hB, h.nodup⟩
/-- Five cells written into a block. -/
theorem only_set5 (w : World) (g : Nat) (a b c d e : Value) : Only [g] w (((((w.setCell ⟨g, 0, none⟩ a).setCell ⟨g, 1, none⟩ b).setCell ⟨g, 2, none⟩ c).setCell ⟨g, 3, none⟩ d).setCell ⟨g, 4, none⟩ e) :=
  (((((Only.refl [g] w).setCell (p := ⟨g, 0, none⟩) (.inl (by simp)) a).setCell (p := ⟨g, 1, none⟩) (.inl (by simp)) b).setCell (p := ⟨g, 2, none⟩) (.inl (by simp)) c).setCell (p := ⟨g, 3, none⟩) (.inl (by simp)) d).setCell (p := ⟨g, 4, none⟩) (.inl (by simp)) e
/-- Get yields nothing, or a value in memory of its own. -/
def GetsTo (v : V) (s : ByteArray) (w : World) (e : Ending) (w' : World) : Prop :=
  (getV v s = none ∧ e = .returned (.tuple #[.agg #[.int .i64 0, .int .i64 0, .string ⟨#[]⟩, .slice none 0 0, .slice none 0 0], .bool false]) ∧ Below w.heap.size w w') ∨
  (∃ t' : T, getV v s = some t'.val ∧ e = .returned (.tuple #[t'.arg, .bool true]) ∧ t'.Own w' w.heap.size ∧ Below w.heap.size w w')
end Go.Proofs.YtjfgmcmnpekahaaDoor
