/- Heaps of numbers, as plain words: no program here. No statement is proved here. -/
import Derived.Test.YteoekfmjlmpmgaaHOps
namespace Go.Proofs.Yteoekfmjlmpmgaa
/-- What stands at a place. -/
abbrev gI (H : List Int) (i : Nat) : Int := H.getD i 0
/-- None is greater than those below it. -/
def heapP (H : List Int) : Prop := ∀ i, 0 < i → i < H.length → gI H ((i - 1) / 2) ≤ gI H i
/-- But for the one at this place, which may be too small. -/
def upP (H : List Int) (t : Nat) : Prop :=
  (∀ i, 0 < i → i < H.length → i ≠ t → gI H ((i - 1) / 2) ≤ gI H i) ∧ ∀ i, 0 < i → i < H.length → (i - 1) / 2 = t → 0 < t → gI H ((t - 1) / 2) ≤ gI H i
/-- But for the one at this place, which may be too great. -/
def downP (H : List Int) (t : Nat) : Prop :=
  (∀ i, 0 < i → i < H.length → (i - 1) / 2 ≠ t → gI H ((i - 1) / 2) ≤ gI H i) ∧ ∀ i, 0 < i → i < H.length → (i - 1) / 2 = t → 0 < t → gI H ((t - 1) / 2) ≤ gI H i
/-- Two exchanged. -/
def swapL (H : List Int) (i j : Nat) : List Int := (H.set i (gI H j)).set j (gI H i)
theorem swapL_len (H : List Int) (i j : Nat) : (swapL H i j).length = H.length := by simp [swapL]
theorem gI_get {H : List Int} {i : Nat} {x : Int} (h : H[i]? = some x) : gI H i = x := by simp [gI, List.getD, h]
theorem get_gI {H : List Int} {i : Nat} (h : i < H.length) : H[i]? = some (gI H i) := by simp [gI, List.getD, List.getElem?_eq_getElem h]
theorem gI_swap {H : List Int} {i j : Nat} (hi : i < H.length) (hj : j < H.length) (k : Nat) : gI (swapL H i j) k = if k = j then gI H i else if k = i then gI H j else gI H k := by
  by_cases h1 : k = j
  · subst h1
    rw [if_pos rfl]
    apply gI_get
    unfold swapL
    rw [List.getElem?_set_self (by simpa using hj)]
  · rw [if_neg h1]
    by_cases h2 : k = i
    · subst h2
      rw [if_pos rfl]
      apply gI_get
      unfold swapL
      rw [List.getElem?_set_ne (fun e => h1 e.symm), List.getElem?_set_self hi]
    · rw [if_neg h2]
      unfold gI List.getD swapL
      rw [List.getElem?_set_ne (fun e => h1 e.symm), List.getElem?_set_ne (fun e => h2 e.symm)]
theorem swapL_perm {H : List Int} {i j : Nat} (hi : i < H.length) (hj : j < H.length) : (swapL H i j).Perm H := by
  have h := (Array.swap_perm (xs := H.toArray) (i := i) (j := j) (by simpa using hi) (by simpa using hj)).toList
  have e : (H.toArray.swap i j (by simpa using hi) (by simpa using hj)).toList = swapL H i j := by
    simp [Array.swap, swapL, gI, List.getD, List.getElem?_eq_getElem hi, List.getElem?_eq_getElem hj]
  rw [e] at h
  simpa using h
/-- The least stands first. -/
theorem heap_least {H : List Int} (h : heapP H) : ∀ i, i < H.length → gI H 0 ≤ gI H i := by
  intro i
  induction i using Nat.strongRecOn with
  | ind i ih =>
    intro hi
    rcases Nat.eq_zero_or_pos i with h0 | h0
    · rw [h0]; exact Int.le_refl _
    · exact Int.le_trans (ih ((i - 1) / 2) (by omega) (by omega)) (h i h0 hi)
theorem heap_nil : heapP [] := fun i _ hi => by simp at hi
theorem heap_first {H : List Int} (h : heapP H) : ∀ x ∈ H, gI H 0 ≤ x := fun x hx => by
  obtain ⟨i, hi⟩ := List.getElem?_of_mem hx
  have := heap_least h i (lt_of_get hi)
  rw [gI_get hi] at this
  exact this
/-- One more at the end. -/
theorem up_snoc {H : List Int} (h : heapP H) (x : Int) : upP (H ++ [x]) H.length := by
  have hg : ∀ i, i < H.length → gI (H ++ [x]) i = gI H i := fun i hi => by simp [gI, List.getD, List.getElem?_append_left hi]
  constructor
  · intro i h0 hi hn
    have hi : i < H.length := by simp at hi; omega
    rw [hg _ hi, hg _ (by omega)]
    exact h i h0 hi
  · intro i h0 hi hp ht
    simp at hi
    omega
theorem up_done {H : List Int} {t : Nat} (h : upP H t) (ht : t = 0 ∨ gI H ((t - 1) / 2) ≤ gI H t) : heapP H := by
  intro i h0 hi
  by_cases hn : i = t
  · subst hn
    rcases ht with ht | ht
    · omega
    · exact ht
  · exact h.1 i h0 hi hn
theorem up_swap {H : List Int} {t p : Nat} (h : upP H t) (hp : p = (t - 1) / 2) (h0 : 0 < t) (ht : t < H.length) (hlt : gI H t < gI H p) : upP (swapL H p t) p := by
  obtain ⟨h1, h2⟩ := h
  have hpt : p < t := by omega
  have hg := gI_swap (i := p) (j := t) (by omega) ht
  constructor
  · intro i hi0 hi hn
    rw [swapL_len] at hi
    rw [hg, hg]
    have a1 := h1 i hi0 hi
    have a2 := h2 i hi0 hi
    by_cases e1 : i = t
    · subst e1
      rw [if_neg (by omega), if_pos hp.symm, if_pos rfl]
      omega
    · rw [if_neg e1, if_neg hn]
      by_cases e2 : (i - 1) / 2 = t
      · rw [if_pos e2]
        have := a2 e2 h0
        rw [← hp] at this
        exact this
      · rw [if_neg e2]
        by_cases e3 : (i - 1) / 2 = p
        · rw [if_pos e3]
          have := a1 e1
          rw [e3] at this
          omega
        · rw [if_neg e3]
          exact a1 e1
  · intro i hi0 hi hpar hp0
    rw [swapL_len] at hi
    rw [hg, hg, if_neg (show ¬ (p - 1) / 2 = t by omega), if_neg (show ¬ (p - 1) / 2 = p by omega), if_neg (show ¬ i = p by omega)]
    have b1 := h1 p hp0 (by omega) (by omega)
    by_cases e1 : i = t
    · rw [if_pos e1]; exact b1
    · rw [if_neg e1]
      have := h1 i hi0 hi e1
      rw [hpar] at this
      omega
theorem down_done {H : List Int} {t : Nat} (h : downP H t) (ht : ∀ i, 0 < i → i < H.length → (i - 1) / 2 = t → gI H t ≤ gI H i) : heapP H := by
  intro i h0 hi
  by_cases hn : (i - 1) / 2 = t
  · rw [hn]; exact ht i h0 hi hn
  · exact h.1 i h0 hi hn
theorem down_swap {H : List Int} {t c : Nat} (h : downP H t) (hc : (c - 1) / 2 = t) (h0 : 0 < c) (hl : c < H.length) (hlt : gI H c < gI H t) (hmin : ∀ i, 0 < i → i < H.length → (i - 1) / 2 = t → gI H c ≤ gI H i) : downP (swapL H t c) c := by
  obtain ⟨h1, h2⟩ := h
  have htc : t < c := by omega
  have hg := gI_swap (i := t) (j := c) (by omega) hl
  constructor
  · intro i hi0 hi hn
    rw [swapL_len] at hi
    rw [hg, hg, if_neg hn]
    by_cases e1 : (i - 1) / 2 = t
    · rw [if_pos e1]
      by_cases e2 : i = c
      · rw [if_pos e2]; omega
      · rw [if_neg e2, if_neg (show ¬ i = t by omega)]
        exact hmin i hi0 hi e1
    · rw [if_neg e1]
      have e2 : ¬ i = c := fun e => e1 (by rw [e]; exact hc)
      rw [if_neg e2]
      by_cases e3 : i = t
      · rw [if_pos e3]
        subst e3
        exact h2 c h0 hl hc (by omega)
      · rw [if_neg e3]
        exact h1 i hi0 hi e1
  · intro i hi0 hi hpar _
    rw [swapL_len] at hi
    rw [hg, hg, hc, if_neg (show ¬ t = c by omega), if_pos rfl, if_neg (show ¬ i = c by omega), if_neg (show ¬ i = t by omega)]
    have := h1 i hi0 hi (by omega)
    rw [hpar] at this
    exact this
/-- The first taken out, the last in its place. -/
def popL (H : List Int) : List Int := (swapL H 0 (H.length - 1)).take (H.length - 1)
theorem popL_len (H : List Int) : (popL H).length = H.length - 1 := by rw [popL, List.length_take, swapL_len]; omega
theorem swapL_pop {H : List Int} (h : 0 < H.length) : swapL H 0 (H.length - 1) = popL H ++ [gI H 0] := by
  have hl := swapL_len H 0 (H.length - 1)
  have h1 : (swapL H 0 (H.length - 1))[H.length - 1]? = some (gI H 0) := by
    rw [get_gI (by omega), gI_swap h (by omega), if_pos rfl]
  conv => lhs; rw [← List.take_append_drop (H.length - 1) (swapL H 0 (H.length - 1))]
  rw [popL]
  congr 1
  rw [List.drop_eq_getElem_cons (by omega), List.drop_eq_nil_of_le (by omega)]
  obtain ⟨_, e⟩ := List.getElem?_eq_some_iff.1 h1
  rw [e]
theorem popL_perm {H : List Int} (h : 0 < H.length) : H.Perm (gI H 0 :: popL H) := by
  have h1 := swapL_perm (H := H) (i := 0) (j := H.length - 1) h (by omega)
  rw [swapL_pop h] at h1
  exact (h1.symm.trans List.perm_append_comm)
theorem popL_down {H : List Int} (h : heapP H) : downP (popL H) 0 := by
  have hg : ∀ i, 0 < i → i < (popL H).length → gI (popL H) i = gI H i := fun i h0 hi => by
    rw [popL_len] at hi
    have e := gI_swap (H := H) (i := 0) (j := H.length - 1) (by omega) (by omega) i
    rw [if_neg (by omega), if_neg (by omega)] at e
    rw [← e]
    simp only [gI, List.getD, popL]
    rw [List.getElem?_take, if_pos hi]
  constructor
  · intro i h0 hi hn
    have hl := popL_len H
    rw [hg i h0 hi, hg _ (by omega) (by omega)]
    exact h i h0 (by omega)
  · intro i _ _ _ ht
    omega
/-- The least of all. -/
theorem popL_min {H : List Int} (h : heapP H) (h0 : 0 < H.length) : ∀ x ∈ popL H, gI H 0 ≤ x := fun x hx => heap_first h x ((popL_perm h0).mem_iff.2 (List.mem_cons_of_mem _ hx))
/-- The children of a place, and the lesser one of them. -/
theorem child_of {i t : Nat} (h0 : 0 < i) (h : (i - 1) / 2 = t) : i = 2 * t + 1 ∨ i = 2 * t + 2 := by omega
/-- How pages stand, and the pages that stand so. -/
theorem are_set : ∀ (L : List Int) (k i : Nat) (x y : Int), L[i]? = some y → y ≠ x → (areFrom x k (L.set i x)).Perm (((k + i : Nat) : Int) :: areFrom x k L)
  | [], k, i, x, y, h, _ => by simp at h
  | z :: l, k, 0, x, y, h, hy => by
    simp at h
    subst h
    simp [areFrom, hy]
  | z :: l, k, i + 1, x, y, h, hy => by
    have h1 := are_set l (k + 1) i x y (by simpa using h) hy
    have e : k + 1 + i = k + (i + 1) := by omega
    rw [e] at h1
    rw [List.set_cons_succ, areFrom, areFrom]
    split
    · exact (h1.cons _).trans (List.Perm.swap ..)
    · exact h1
theorem are_unset : ∀ (L : List Int) (k i : Nat) (x y : Int), L[i]? = some x → y ≠ x → (areFrom x k L).Perm (((k + i : Nat) : Int) :: areFrom x k (L.set i y))
  | [], k, i, x, y, h, _ => by simp at h
  | z :: l, k, 0, x, y, h, hy => by
    simp at h
    subst h
    simp [areFrom, hy]
  | z :: l, k, i + 1, x, y, h, hy => by
    have h1 := are_unset l (k + 1) i x y (by simpa using h) hy
    have e : k + 1 + i = k + (i + 1) := by omega
    rw [e] at h1
    rw [List.set_cons_succ, areFrom, areFrom]
    split
    · exact (h1.cons _).trans (List.Perm.swap ..)
    · exact h1
theorem are_other : ∀ (L : List Int) (k i : Nat) (x y z : Int), L[i]? = some y → y ≠ x → z ≠ x → areFrom x k (L.set i z) = areFrom x k L
  | [], k, i, x, y, z, h, _, _ => by simp at h
  | u :: l, k, 0, x, y, z, h, hy, hz => by
    simp at h
    subst h
    simp [areFrom, hy, hz]
  | u :: l, k, i + 1, x, y, z, h, hy, hz => by
    rw [List.set_cons_succ, areFrom, areFrom, are_other l (k + 1) i x y z (by simpa using h) hy hz]
theorem mem_are {x : Int} {L : List Int} {i : Nat} (h : L[i]? = some x) : (i : Int) ∈ areL L x := by
  have h1 := are_unset L 0 i x (x + 1) h (by omega)
  rw [Nat.zero_add] at h1
  exact h1.mem_iff.2 (List.mem_cons_self ..)
theorem are_at {x : Int} {L : List Int} {n : Int} (h : n ∈ areL L x) : 0 ≤ n ∧ n < L.length ∧ L[n.toNat]? = some x := by
  obtain ⟨i, e, h1⟩ := are_mem h
  have := lt_of_get h1
  rw [Nat.zero_add] at e
  subst e
  exact ⟨by omega, by omega, by simpa using h1⟩
theorem are_nodup (x : Int) : ∀ (k : Nat) (L : List Int), (areFrom x k L).Nodup ∧ ∀ n ∈ areFrom x k L, (k : Int) ≤ n
  | _, [] => ⟨List.Pairwise.nil, fun _ h => by cases h⟩
  | k, y :: l => by
    obtain ⟨h1, h2⟩ := are_nodup x (k + 1) l
    rw [areFrom]
    split
    · refine ⟨List.nodup_cons.2 ⟨fun h => by have := h2 _ h; omega, h1⟩, fun n hn => ?_⟩
      rcases List.mem_cons.1 hn with rfl | hn
      · omega
      · have := h2 n hn; omega
    · exact ⟨h1, fun n hn => by have := h2 n hn; omega⟩
theorem zeros_many : ∀ L : List Int, manyOf 0 L = zerosN L
  | [] => rfl
  | x :: l => by rw [manyOf, zerosN, zeros_many l]
/-- The first that is free is the least of those that are free. -/
theorem find_least {L : List Int} {m : Nat} (h : L[m]? = some 0) (hm : ∀ x ∈ areL L 0, (m : Int) ≤ x) : findZ L = some m := by
  cases hf : findZ L with
  | none =>
    have h1 := zeros_set L m 1 h (by decide)
    have h2 := find_none hf
    omega
  | some i =>
    obtain ⟨h1, h2⟩ := find_some hf
    have h3 := hm _ (mem_are h1)
    rcases Nat.lt_trichotomy i m with h4 | h4 | h4
    · omega
    · rw [h4]
    · exact absurd h (h2 m h4)
end Go.Proofs.Yteoekfmjlmpmgaa
