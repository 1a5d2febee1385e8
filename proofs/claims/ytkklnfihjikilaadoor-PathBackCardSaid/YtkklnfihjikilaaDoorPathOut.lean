/- Values that lie outside some blocks: no statement is proved here. -/
import Derived.Test.YtkklnfihjikilaaDoorPathIn
namespace Go.Proofs.YtkklnfihjikilaaDoor
open Go.RowKit
set_option maxRecDepth 100000

/-- A value lies outside the blocks from B0 up to B1. -/
def T.Out (B0 B1 : Nat) (t : T) : Prop := ∀ p ∈ t.places, p.1.block < B0 ∨ B1 ≤ p.1.block
def OutL (B0 B1 : Nat) (a : Option Addr) (l : List T) : Prop := ∀ p ∈ T.placesL a 0 l, p.1.block < B0 ∨ B1 ≤ p.1.block
def OutD (B0 B1 : Nat) (a : Option Addr) (d : List (ByteArray × T)) : Prop := ∀ p ∈ T.placesD a 0 d, p.1.block < B0 ∨ B1 ≤ p.1.block
theorem T.Out.of_parts {B0 B1 : Nat} {k n : Int} {s : ByteArray} {la : Option Addr} {lc : Nat} {l : List T} {da : Option Addr} {dc : Nat} {d : List (ByteArray × T)} (hl : OutL B0 B1 la l) (hd : OutD B0 B1 da d) : T.Out B0 B1 (.mk k n s la lc l da dc d) := by
  intro p hp
  simp only [T.places, List.mem_append] at hp
  rcases hp with hp | hp
  · exact hl p hp
  · exact hd p hp
theorem T.Out.parts {B0 B1 : Nat} {k n : Int} {s : ByteArray} {la : Option Addr} {lc : Nat} {l : List T} {da : Option Addr} {dc : Nat} {d : List (ByteArray × T)} (h : T.Out B0 B1 (.mk k n s la lc l da dc d)) : OutL B0 B1 la l ∧ OutD B0 B1 da d :=
  ⟨fun p hp => h p (by simp [T.places, hp]), fun p hp => h p (by simp [T.places, hp])⟩
theorem T.In.out {w : World} {t : T} {B0 : Nat} (h : t.In w) (hB : w.heap.size ≤ B0) (B1 : Nat) : t.Out B0 B1 := fun p hp => .inl (Nat.lt_of_lt_of_le (cell_lt (h p hp)) hB)
theorem OutL.kid {B0 B1 : Nat} {a : Option Addr} {l : List T} (h : OutL B0 B1 a l) {i : Nat} {x : T} (hi : l[i]? = some x) : x.Out B0 B1 := fun p hp => h p ((T.mem_placesL _ _ _ _).2 ⟨i, x, hi, .inr hp⟩)
theorem OutD.kid {B0 B1 : Nat} {a : Option Addr} {d : List (ByteArray × T)} (h : OutD B0 B1 a d) {i : Nat} {x : ByteArray × T} (hi : d[i]? = some x) : x.2.Out B0 B1 := fun p hp => h p ((T.mem_placesD _ _ _ _).2 ⟨i, x, hi, .inr hp⟩)
theorem kid_out {B0 B1 : Nat} {t y : T} {j : Nat} (h : t.Out B0 B1) (hk : kidT t j = some y) : y.Out B0 B1 := by
  obtain ⟨k, n, s, la, lc, l, da, dc, d⟩ := t
  rw [kidT] at hk
  split at hk
  · obtain ⟨f, hf, rfl⟩ := Option.map_eq_some_iff.1 hk
    exact h.parts.2.kid hf
  · exact h.parts.1.kid hk
theorem laid_block {g i : Nat} {cs : List Value} {p : Addr × Value} (h : p ∈ laid (some ⟨g, 0, none⟩) i cs) : p.1.block = g := by
  obtain ⟨j, c, -, rfl⟩ := mem_laid.1 h
  simp [at_]
theorem outL_new {B0 B1 g : Nat} {l : List T} (hg : B1 ≤ g) (hk : ∀ x ∈ l, x.Out B0 B1) : OutL B0 B1 (some ⟨g, 0, none⟩) l := by
  intro p hp
  obtain ⟨i, x, hx, hp⟩ := (T.mem_placesL _ _ _ _).1 hp
  rcases hp with hp | hp
  · rw [laid_block hp]
    exact .inr hg
  · exact hk x (List.mem_of_getElem? hx) p hp
theorem outD_new {B0 B1 g : Nat} {d : List (ByteArray × T)} (hg : B1 ≤ g) (hk : ∀ x ∈ d, x.2.Out B0 B1) : OutD B0 B1 (some ⟨g, 0, none⟩) d := by
  intro p hp
  obtain ⟨i, x, hx, hp⟩ := (T.mem_placesD _ _ _ _).1 hp
  rcases hp with hp | hp
  · rw [laid_block hp]
    exact .inr hg
  · exact hk x (List.mem_of_getElem? hx) p hp
theorem cell_block {w w' : World} {a : Addr} (h : w'.heap[a.block]? = w.heap[a.block]?) : w'.cell? a = w.cell? a := by
  unfold World.cell?
  rw [h]
/-- Blocks that a value lies outside of may turn. -/
theorem T.In.only {w w' : World} {t : T} {B0 B1 : Nat} {S : List Nat} (h : t.In w) (ho : t.Out B0 B1) (g : Only S w w') (hS : ∀ b ∈ S, B0 ≤ b ∧ b < B1) : t.In w' :=
  h.keep fun p hp => cell_block (g.block _ (cell_lt (h p hp)) (fun hc => by have := hS _ hc; have := ho p hp; omega))
theorem none_out (B0 B1 : Nat) (k : Int) : T.Out B0 B1 (.mk k 0 ⟨#[]⟩ none 0 [] none 0 []) := fun p hp => by simp [T.places, T.placesL, T.placesD] at hp
theorem owns_out {w : World} {B B0 B1 : Nat} (hB : B1 ≤ B) (t : T) : Owns w B t.rows → t.Out B0 B1 := by
  induction t using T.ind with
  | h k n s la lc l da dc d ihl ihd =>
  intro h
  have hrow : ∀ r ∈ T.rows (.mk k n s la lc l da dc d), w.ownsRow B r.e r.size r.v r.n r.xs := h
  simp only [T.rows, T.rowsL_eq, T.rowsD_eq] at hrow
  refine T.Out.of_parts ?_ ?_
  · intro p hp
    obtain ⟨i, x, hx, hp⟩ := (T.mem_placesL _ _ _ _).1 hp
    rcases hp with hp | hp
    · have hr := hrow _ (List.mem_cons_self ..)
      simp only at hr
      have hil := lt_of_get hx
      have hr2 := hr
      obtain ⟨h1, h2⟩ := hr
      rcases h2 with ⟨hv, h2⟩ | ⟨g, cap, cur, hv, hb, hg', hrest⟩
      · exfalso; omega
      · injection hv with hv
        subst hv
        have := (hr2.lt g rfl).1
        rw [laid_block hp]
        exact .inr (by omega)
    · exact ihl x (List.mem_of_getElem? hx) (fun r hr => hrow r (by simp only [List.mem_cons, List.mem_append, List.mem_flatMap]; exact .inr (.inr (.inl ⟨x, List.mem_of_getElem? hx, hr⟩)))) p hp
  · intro p hp
    obtain ⟨i, x, hx, hp⟩ := (T.mem_placesD _ _ _ _).1 hp
    rcases hp with hp | hp
    · have hr := hrow _ (List.mem_cons_of_mem _ (List.mem_cons_self ..))
      simp only at hr
      have hil := lt_of_get hx
      have hr2 := hr
      obtain ⟨h1, h2⟩ := hr
      rcases h2 with ⟨hv, h2⟩ | ⟨g, cap, cur, hv, hb, hg', hrest⟩
      · exfalso; omega
      · injection hv with hv
        subst hv
        have := (hr2.lt g rfl).1
        rw [laid_block hp]
        exact .inr (by omega)
    · exact ihd x (List.mem_of_getElem? hx) (fun r hr => hrow r (by simp only [List.mem_cons, List.mem_append, List.mem_flatMap]; exact .inr (.inr (.inr ⟨x, List.mem_of_getElem? hx, hr⟩)))) p hp
theorem T.Own.out {w : World} {t : T} {B B0 B1 : Nat} (h : t.Own w B) (hB : B1 ≤ B) : t.Out B0 B1 := owns_out hB t h.owns
end Go.Proofs.YtkklnfihjikilaaDoor
