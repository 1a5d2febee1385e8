/- The contracts of Compare and of what it calls: no statement is proved here. -/
import Derived.Test.YtjfgmcmnpekahaaDoorTree
namespace Go.Proofs.YtjfgmcmnpekahaaDoor
open Go.RowKit
set_option maxRecDepth 100000

/-- -1, 0 or 1 of two numbers. -/
def cmpI (a b : Int) : Int := if a < b then -1 else if b < a then 1 else 0

def ltS (a b : ByteArray) : Bool := Op.bytesLess a.toList b.toList
def cmpS (a b : ByteArray) : Int := if ltS a b then -1 else if a.toList == b.toList then 0 else 1
mutual
/-- Compare. -/
def cmpV : V → V → Int
  | .mk k n s l d, .mk k' n' s' l' d' =>
    if k ≠ k' then cmpI k k' else
    if k = 3 ∨ k = 9 ∨ k = 10 then cmpI n n' else
    if k = 4 ∨ k = 7 ∨ k = 8 then cmpS s s' else
    if k = 6 then cmpL l l' else
    if k = 5 then cmpD d d' else 0
def cmpL : List V → List V → Int
  | [], [] => 0
  | [], _ :: _ => -1
  | _ :: _, [] => 1
  | x :: r, y :: r' => if cmpV x y = 0 then cmpL r r' else cmpV x y
def cmpD : List (ByteArray × V) → List (ByteArray × V) → Int
  | [], [] => 0
  | [], _ :: _ => -1
  | _ :: _, [] => 1
  | (s, x) :: r, (s', y) :: r' => if cmpF s x s' y = 0 then cmpD r r' else cmpF s x s' y
def cmpF (s : ByteArray) : V → ByteArray → V → Int
  | x, s', y => if s.toList == s'.toList then cmpV x y else cmpS s s'
end

theorem cmpL_step {l l' : List V} {k : Nat} {x y : V} (hx : l[k]? = some x) (hy : l'[k]? = some y) :
    cmpL (l.drop k) (l'.drop k) = if cmpV x y = 0 then cmpL (l.drop (k + 1)) (l'.drop (k + 1)) else cmpV x y := by
  obtain ⟨h1, rfl⟩ := List.getElem?_eq_some_iff.1 hx
  obtain ⟨h2, rfl⟩ := List.getElem?_eq_some_iff.1 hy
  rw [List.drop_eq_getElem_cons h1, List.drop_eq_getElem_cons h2, cmpL]
theorem cmpL_end {l l' : List V} {k : Nat} (h1 : k ≤ l.length) (h2 : k ≤ l'.length) (h : ¬ (k < l.length ∧ k < l'.length)) : cmpL (l.drop k) (l'.drop k) = cmpI l.length l'.length := by
  unfold cmpI
  by_cases e1 : k < l.length
  · have e2 : k = l'.length := by omega
    rw [List.drop_eq_getElem_cons e1, List.drop_eq_nil_of_le (by omega : l'.length ≤ k), cmpL, if_neg (by omega), if_pos (by omega)]
  · by_cases e2 : k < l'.length
    · rw [List.drop_eq_getElem_cons e2, List.drop_eq_nil_of_le (by omega : l.length ≤ k), cmpL, if_pos (by omega)]
    · rw [List.drop_eq_nil_of_le (by omega : l.length ≤ k), List.drop_eq_nil_of_le (by omega : l'.length ≤ k), cmpL, if_neg (by omega), if_neg (by omega)]
theorem cmpD_step {l l' : List (ByteArray × V)} {k : Nat} {x y : ByteArray × V} (hx : l[k]? = some x) (hy : l'[k]? = some y) :
    cmpD (l.drop k) (l'.drop k) = if cmpF x.1 x.2 y.1 y.2 = 0 then cmpD (l.drop (k + 1)) (l'.drop (k + 1)) else cmpF x.1 x.2 y.1 y.2 := by
  obtain ⟨h1, rfl⟩ := List.getElem?_eq_some_iff.1 hx
  obtain ⟨h2, rfl⟩ := List.getElem?_eq_some_iff.1 hy
  rw [List.drop_eq_getElem_cons h1, List.drop_eq_getElem_cons h2, cmpD]
theorem cmpD_end {l l' : List (ByteArray × V)} {k : Nat} (h1 : k ≤ l.length) (h2 : k ≤ l'.length) (h : ¬ (k < l.length ∧ k < l'.length)) : cmpD (l.drop k) (l'.drop k) = cmpI l.length l'.length := by
  unfold cmpI
  by_cases e1 : k < l.length
  · have e2 : k = l'.length := by omega
    rw [List.drop_eq_getElem_cons e1, List.drop_eq_nil_of_le (by omega : l'.length ≤ k), cmpD, if_neg (by omega), if_pos (by omega)]
  · by_cases e2 : k < l'.length
    · rw [List.drop_eq_getElem_cons e2, List.drop_eq_nil_of_le (by omega : l.length ≤ k), cmpD, if_pos (by omega)]
    · rw [List.drop_eq_nil_of_le (by omega : l.length ≤ k), List.drop_eq_nil_of_le (by omega : l'.length ≤ k), cmpD, if_neg (by omega), if_neg (by omega)]

end Go.Proofs.YtjfgmcmnpekahaaDoor
