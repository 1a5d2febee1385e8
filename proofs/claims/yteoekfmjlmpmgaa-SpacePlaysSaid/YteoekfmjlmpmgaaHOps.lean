/- Steps of three numbers as the statements of layer 13 have them; more of a space's pure words. No statement is proved here. -/
import Derived.Test.YteoekfmjlmpmgaaHAwake
namespace Go.Proofs.Yteoekfmjlmpmgaa
open Go.RowKit
set_option maxRecDepth 100000

/-- A step: on which, what, which page. -/
structure Op3 where
  on : Int
  act : Int
  n : Int
def Op3.cells (o : Op3) : List Value := [.int .i64 o.on, .int .i64 o.act, .int .i64 o.n]
structure Op3.ok (o : Op3) : Prop where
  on : okInt o.on
  act : okInt o.act
  n : okInt o.n
/-- A row of them. -/
def InT (w : World) (a : Option Addr) (l : List Op3) : Prop := ∀ i x, l[i]? = some x → ∃ b o, a = some ⟨b, o, none⟩ ∧ ∀ j c, x.cells[j]? = some c → w.cell? ⟨b, o + i * 3 + j, none⟩ = some c
theorem InT.then_ {w w' : World} {a : Option Addr} {l : List Op3} (h : InT w a l) (hb : Below w.heap.size w w') : InT w' a l := fun i x hx => by
  obtain ⟨b, o, e, hc⟩ := h i x hx
  exact ⟨b, o, e, fun j c hj => (hb.cell (p := ⟨b, o + i * 3 + j, none⟩) (cell_lt (hc j c hj))).trans (hc j c hj)⟩
/-- A step read, in a world that has grown. -/
theorem InT.one {W w : World} {a : Option Addr} {l : List Op3} (h : InT W a l) (hb : Below W.heap.size W w) {j : Nat} (hj : j < l.length) :
    ∃ b o x, a = some ⟨b, o, none⟩ ∧ l[j]? = some x ∧ w.cell? ⟨b, o + j * 3, none⟩ = some (.int .i64 x.on) ∧ w.cell? ⟨b, o + j * 3 + 1, none⟩ = some (.int .i64 x.act) ∧ w.cell? ⟨b, o + j * 3 + 2, none⟩ = some (.int .i64 x.n) := by
  obtain ⟨b, o, e, hc⟩ := h.then_ hb j _ (List.getElem?_eq_getElem hj)
  exact ⟨b, o, _, e, List.getElem?_eq_getElem hj, hc 0 _ rfl, hc 1 _ rfl, hc 2 _ rfl⟩
theorem turnL_len (L : List Int) : (turnL L).length = L.length := List.length_map _
theorem are_len (x : Int) : ∀ (k : Nat) (L : List Int), (areFrom x k L).length = manyOf x L
  | _, [] => rfl
  | k, y :: l => by
    unfold areFrom manyOf
    split
    · rw [List.length_cons, are_len x (k + 1) l]; omega
    · rw [are_len x (k + 1) l]; omega
theorem many_le (x : Int) : ∀ L : List Int, manyOf x L ≤ L.length
  | [] => Nat.le_refl _
  | y :: l => by
    have := many_le x l
    unfold manyOf
    split <;> simp only [List.length_cons] <;> omega
theorem are_mem {x : Int} : ∀ {k : Nat} {L : List Int} {n : Int}, n ∈ areFrom x k L → ∃ i : Nat, n = ((k + i : Nat) : Int) ∧ L[i]? = some x
  | _, [], n, h => by cases h
  | k, y :: l, n, h => by
    unfold areFrom at h
    split at h
    · rename_i hy
      rcases List.mem_cons.1 h with h1 | h1
      · exact ⟨0, h1, by simp [hy]⟩
      · obtain ⟨i, e1, e2⟩ := are_mem h1
        exact ⟨i + 1, by omega, by simpa using e2⟩
    · obtain ⟨i, e1, e2⟩ := are_mem h
      exact ⟨i + 1, by omega, by simpa using e2⟩
theorem areL_ok {x : Int} {L : List Int} (hl : L.length ≤ 65536) : ∀ n ∈ areL L x, okInt n := fun n hn => by
  obtain ⟨i, e, h⟩ := are_mem hn
  have := lt_of_get h
  unfold okInt
  omega
theorem areL_len (x : Int) (L : List Int) : (areL L x).length = manyOf x L := are_len x 0 L
theorem are_turn2 : ∀ (L : List Int) (k : Nat), areFrom 2 k (turnL L) = []
  | [], _ => rfl
  | y :: l, k => by
    rw [turnL, List.map_cons, areFrom, if_neg (by split <;> omega)]
    exact are_turn2 l (k + 1)
/-- Free or in use, each. -/
def two (L : List Int) : Prop := ∀ x ∈ L, x = 0 ∨ x = 1
theorem turn_two {L : List Int} (h : three L) : two (turnL L) := fun x hx => by
  obtain ⟨y, hy, rfl⟩ := List.mem_map.1 hx
  rcases h y hy with h1 | h1 | h1 <;> subst h1 <;> simp
theorem newF_are : ∀ (T P : List Int), two T → newF (P ++ List.replicate T.length 0) (areFrom 1 P.length T) = some (P ++ T)
  | [], P, _ => by simp [areFrom, newF]
  | y :: T, P, h => by
    have ht : two T := fun x hx => h x (List.mem_cons_of_mem _ hx)
    rcases h y (List.mem_cons_self ..) with hy | hy
    · subst hy
      rw [areFrom, if_neg (by decide)]
      have := newF_are T (P ++ [0]) ht
      simpa [List.replicate_succ] using this
    · subst hy
      rw [areFrom, if_pos rfl, newF, if_pos ⟨by omega, by simp [List.replicate_succ]⟩]
      have := newF_are T (P ++ [1]) ht
      simpa [List.replicate_succ] using this
/-- A space that is made anew with the pages in use of another one. -/
theorem newP_are {T : List Int} (h : two T) (h1 : 1 ≤ T.length ∧ T.length ≤ 65536) : newP T.length (areL T 1) = some T := by
  have := newF_are T [] h
  unfold newP areL
  rw [if_pos (by omega)]
  simpa using this
end Go.Proofs.Yteoekfmjlmpmgaa
