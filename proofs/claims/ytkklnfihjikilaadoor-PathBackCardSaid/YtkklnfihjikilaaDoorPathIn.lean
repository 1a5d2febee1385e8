/- Rows of texts as they lie in memory; what stands in a value at a part: no statement is proved here. -/
import Derived.Test.YtkklnfihjikilaaDoorPathV
namespace Go.Proofs.YtkklnfihjikilaaDoor
open Go.RowKit
set_option maxRecDepth 100000

/-- A row of texts lies there. -/
def InS (w : World) (a : Option Addr) (l : List ByteArray) : Prop := ∀ (i : Nat) (x : ByteArray), l[i]? = some x → ∃ b o, a = some ⟨b, o, none⟩ ∧ w.cell? ⟨b, o + i, none⟩ = some (.string x)
theorem InS.then_ {w w' : World} {a : Option Addr} {l : List ByteArray} (h : InS w a l) (g : Below w.heap.size w w') : InS w' a l := fun i x hx => by
  obtain ⟨b, o, ha, hc⟩ := h i x hx
  exact ⟨b, o, ha, (g.cell (cell_lt hc)).trans hc⟩
theorem InS.drew' {w : World} {a : Option Addr} {l : List ByteArray} (h : InS w a l) : InS w.drew a l := h
theorem InS.nil (w : World) (a : Option Addr) : InS w a [] := fun i x h => by simp at h
/-- A slice of texts: parts of a path. -/
structure Parts (w : World) (a : Option Addr) (c : Nat) (l : List ByteArray) : Prop where
  in_ : InS w a l
  cap : l.length ≤ c ∧ c ≤ 9223372036854775807
  ok : ∀ x ∈ l, okLen x.size
theorem Parts.then_ {w w' : World} {a : Option Addr} {c : Nat} {l : List ByteArray} (h : Parts w a c l) (g : Below w.heap.size w w') : Parts w' a c l := ⟨h.in_.then_ g, h.cap, h.ok⟩
theorem Parts.drew' {w : World} {a : Option Addr} {c : Nat} {l : List ByteArray} (h : Parts w a c l) : Parts w.drew a c l := ⟨h.in_, h.cap, h.ok⟩
theorem Parts.head {w : World} {a : Option Addr} {c : Nat} {p : ByteArray} {r : List ByteArray} (h : Parts w a c (p :: r)) : ∃ b o, a = some ⟨b, o, none⟩ ∧ w.cell? ⟨b, o, none⟩ = some (.string p) ∧ okLen p.size := by
  obtain ⟨b, o, ha, hc⟩ := h.in_ 0 p rfl
  exact ⟨b, o, ha, hc, h.ok p (by simp)⟩
theorem Parts.tail {w : World} {b o : Nat} {c : Nat} {p : ByteArray} {r : List ByteArray} (h : Parts w (some ⟨b, o, none⟩) c (p :: r)) : Parts w (some ⟨b, o + 1, none⟩) (c - 1) r := by
  have hc : r.length + 1 ≤ c := h.cap.1
  have hc2 := h.cap.2
  refine ⟨fun i x hx => ?_, ⟨by omega, by omega⟩, fun x hx => h.ok x (by simp [hx])⟩
  obtain ⟨b', o', e, hcell⟩ := h.in_ (i + 1) x (by simpa using hx)
  injection e with e
  injection e with e1 e2
  subst e1 e2
  exact ⟨b, o + 1, rfl, by rw [Nat.add_assoc, Nat.add_comm 1 i]; exact hcell⟩
theorem Parts.last {w : World} {a : Option Addr} {p : ByteArray} {r : List ByteArray} (h : Parts w a 1 (p :: r)) (a' : Option Addr) : r = [] ∧ Parts w a' 0 r := by
  have hc : r.length + 1 ≤ 1 := h.cap.1
  have h0 : r = [] := List.eq_nil_of_length_eq_zero (by omega)
  exact ⟨h0, by rw [h0]; exact ⟨InS.nil _ _, by simp, by simp⟩⟩
theorem Parts.len {w : World} {a : Option Addr} {c : Nat} {l : List ByteArray} (h : Parts w a c l) : l.length ≤ 9223372036854775807 := Nat.le_trans h.cap.1 h.cap.2

/-- Where in a value a part leads to. -/
def standV : V → ByteArray → Int
  | .mk k _ _ l d, p => if k = 5 then idxD d p 0 else if k = 6 then (if placeN p < l.length then placeN p else -1) else -1
/-- What stands there. -/
def kidT : T → Nat → Option T
  | .mk k _ _ _ _ l _ _ d, j => if k = 5 then (d[j]?).map (·.2) else l[j]?
theorem stand_child (t : T) (p : ByteArray) : (standV t.val p = -1 ∧ childV t.val p = none) ∨ ∃ (j : Nat) (x : T), standV t.val p = (j : Int) ∧ childV t.val p = some x.val ∧ kidT t j = some x := by
  obtain ⟨k, n, s, la, lc, l, da, dc, d⟩ := t
  rw [T.val_mk, standV, childV]
  by_cases h5 : k = 5
  · rw [if_pos h5, if_pos h5]
    rcases idxD_find (d.map fun f => (f.1, f.2.val)) p 0 with h | ⟨j, x, h1, h2, h3⟩
    · exact .inl h
    · rw [List.getElem?_map, Option.map_eq_some_iff] at h2
      obtain ⟨y, hy, rfl⟩ := h2
      exact .inr ⟨j, y.2, by rw [h1]; simp, h3, by rw [kidT, if_pos h5, hy]; rfl⟩
  · rw [if_neg h5, if_neg h5]
    by_cases h6 : k = 6
    · rw [if_pos h6, if_pos h6]
      have hb := placeN_bound p
      by_cases h0 : 0 ≤ placeN p
      · rw [if_pos h0]
        by_cases hl : placeN p < (l.map T.val).length
        · rw [if_pos hl]
          rw [List.length_map] at hl
          have hx : l[(placeN p).toNat]? = some (l[(placeN p).toNat]'(by omega)) := List.getElem?_eq_getElem (by omega)
          exact .inr ⟨(placeN p).toNat, _, by omega, by rw [List.getElem?_map, hx]; rfl, by rw [kidT, if_neg h5]; exact hx⟩
        · rw [if_neg hl]
          rw [List.length_map] at hl
          exact .inl ⟨rfl, by rw [List.getElem?_map, List.getElem?_eq_none (by omega)]; rfl⟩
      · rw [if_neg h0]
        refine .inl ⟨?_, rfl⟩
        split <;> omega
    · rw [if_neg h6, if_neg h6]; exact .inl ⟨rfl, rfl⟩
theorem kid_kind {t x : T} {p : ByteArray} {j : Nat} (h1 : standV t.val p = (j : Int)) (_h2 : kidT t j = some x) : kindV t.val = 5 ∨ kindV t.val = 6 := by
  obtain ⟨k, n, s, la, lc, l, da, dc, d⟩ := t
  rw [T.val_mk, standV] at h1
  rw [T.val_mk, kindV]
  by_cases h5 : k = 5
  · exact .inl h5
  · rw [if_neg h5] at h1
    by_cases h6 : k = 6
    · exact .inr h6
    · rw [if_neg h6] at h1; omega
theorem kid_in {w : World} {t x : T} {j : Nat} (h : t.In w) (hk : kidT t j = some x) : x.In w := by
  obtain ⟨k, n, s, la, lc, l, da, dc, d⟩ := t
  obtain ⟨hl, hd⟩ := h.parts
  rw [kidT] at hk
  split at hk
  · rw [Option.map_eq_some_iff] at hk
    obtain ⟨y, hy, rfl⟩ := hk
    obtain ⟨_, _, _, _, h1⟩ := hd.elem hy
    exact h1
  · obtain ⟨_, _, _, _, h1⟩ := hl.elem hk
    exact h1
theorem kid_ok {t x : T} {j : Nat} (h : t.ok) (hk : kidT t j = some x) : x.ok := by
  obtain ⟨k, n, s, la, lc, l, da, dc, d⟩ := t
  obtain ⟨-, -, -, -, -, -, -, -, -, okl, okd⟩ := h.parts
  rw [kidT] at hk
  split at hk
  · rw [Option.map_eq_some_iff] at hk
    obtain ⟨y, hy, rfl⟩ := hk
    exact (okd y (List.mem_of_getElem? hy)).2
  · exact okl x (List.mem_of_getElem? hk)
end Go.Proofs.YtkklnfihjikilaaDoor
