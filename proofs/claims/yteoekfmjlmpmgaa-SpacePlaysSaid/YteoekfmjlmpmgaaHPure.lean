/- Which pages are free, as plain words: no program here. No statement is proved here. -/
namespace Go.Proofs.Yteoekfmjlmpmgaa
/-- How many stand free. -/
def zerosN : List Int → Nat
  | [] => 0
  | x :: l => (if x = 0 then 1 else 0) + zerosN l
/-- The first that stands free. -/
def findZ : List Int → Option Nat
  | [] => none
  | x :: l => if x = 0 then some 0 else (findZ l).map (· + 1)
theorem zeros_le : ∀ L : List Int, zerosN L ≤ L.length
  | [] => Nat.le_refl _
  | x :: l => by
    have := zeros_le l
    unfold zerosN
    split <;> simp only [List.length_cons] <;> omega
theorem zeros_set : ∀ (L : List Int) (i : Nat) (x : Int), L[i]? = some 0 → x ≠ 0 → zerosN (L.set i x) + 1 = zerosN L
  | [], i, x, h, _ => by simp at h
  | y :: l, 0, x, h, hx => by
    simp at h
    subst h
    simp [zerosN, hx]
    omega
  | y :: l, i + 1, x, h, hx => by
    have := zeros_set l i x (by simpa using h) hx
    simp [zerosN]
    omega
theorem zeros_back : ∀ (L : List Int) (i : Nat) (y : Int), L[i]? = some y → y ≠ 0 → zerosN (L.set i 0) = zerosN L + 1
  | [], i, y, h, _ => by simp at h
  | z :: l, 0, y, h, hy => by
    simp at h
    subst h
    simp [zerosN, hy]
    omega
  | z :: l, i + 1, y, h, hy => by
    have := zeros_back l i y (by simpa using h) hy
    simp [zerosN]
    omega
theorem zeros_same : ∀ (L : List Int) (i : Nat) (y x : Int), L[i]? = some y → y ≠ 0 → x ≠ 0 → zerosN (L.set i x) = zerosN L
  | [], i, y, x, h, _, _ => by simp at h
  | z :: l, 0, y, x, h, hy, hx => by
    simp at h
    subst h
    simp [zerosN, hy, hx]
  | z :: l, i + 1, y, x, h, hy, hx => by
    have := zeros_same l i y x (by simpa using h) hy hx
    simp [zerosN]
    omega
theorem find_some : ∀ {L : List Int} {i : Nat}, findZ L = some i → L[i]? = some 0 ∧ ∀ j, j < i → L[j]? ≠ some 0
  | [], i, h => by cases h
  | x :: l, i, h => by
    unfold findZ at h
    split at h
    · rename_i hx
      injection h with h
      subst h hx
      exact ⟨rfl, fun j hj => absurd hj (Nat.not_lt_zero _)⟩
    · rename_i hx
      cases hf : findZ l with
      | none => rw [hf] at h; cases h
      | some k =>
        rw [hf] at h
        injection h with h
        obtain ⟨h1, h2⟩ := find_some hf
        have h : k + 1 = i := h
        subst h
        refine ⟨by simpa using h1, fun j hj => ?_⟩
        cases j with
        | zero => simpa using hx
        | succ j => simpa using h2 j (by omega)
theorem find_none : ∀ {L : List Int}, findZ L = none → zerosN L = 0
  | [], _ => rfl
  | x :: l, h => by
    unfold findZ at h
    split at h
    · cases h
    · rename_i hx
      cases hf : findZ l with
      | none => simp [zerosN, hx, find_none hf]
      | some k => rw [hf] at h; cases h
theorem find_is {L : List Int} (h : zerosN L ≠ 0) : ∃ i, findZ L = some i := by
  cases hf : findZ L with
  | none => exact absurd (find_none hf) h
  | some i => exact ⟨i, rfl⟩
theorem zeros_none : ∀ {L : List Int}, zerosN L = 0 → findZ L = none
  | [], _ => rfl
  | x :: l, h => by
    unfold zerosN at h
    unfold findZ
    split at h
    · omega
    · rename_i hx
      rw [if_neg hx, zeros_none (by omega)]
      rfl
/-- A page taken: the page, the error, and how they stand then. -/
def takeN (L : List Int) : Int := ((findZ L).getD 0 : Nat)
def takeE (L : List Int) : Int := if (findZ L).isSome then 0 else 4
def takeL (L : List Int) : List Int := match findZ L with | some i => L.set i 1 | none => L
theorem take_some {L : List Int} {i : Nat} (h : findZ L = some i) : takeN L = i ∧ takeE L = 0 ∧ takeL L = L.set i 1 := by
  unfold takeN takeE takeL
  rw [h]
  exact ⟨rfl, rfl, rfl⟩
theorem take_none {L : List Int} (h : findZ L = none) : takeN L = 0 ∧ takeE L = 4 ∧ takeL L = L := by
  unfold takeN takeE takeL
  rw [h]
  exact ⟨rfl, rfl, rfl⟩
theorem takeL_len (L : List Int) : (takeL L).length = L.length := by
  unfold takeL
  split
  · exact List.length_set
  · rfl
/-- A page that is in use stands so now. -/
def usedB (L : List Int) (n : Int) : Bool := decide (0 ≤ n) && L[n.toNat]? == some 1
def setE (L : List Int) (n : Int) : Int := if usedB L n then 0 else 1
def setL (L : List Int) (n : Int) (x : Int) : List Int := if usedB L n then L.set n.toNat x else L
theorem setL_len (L : List Int) (n x : Int) : (setL L n x).length = L.length := by
  unfold setL
  split
  · exact List.length_set
  · rfl
/-- A turn. -/
def turnL (L : List Int) : List Int := L.map fun x => if x = 2 then 0 else x
def manyOf (x : Int) : List Int → Nat
  | [] => 0
  | y :: l => (if y = x then 1 else 0) + manyOf x l
/-- The pages that stand so, rising, from the k-th on. -/
def areFrom (x : Int) : Nat → List Int → List Int
  | _, [] => []
  | k, y :: l => if y = x then (k : Int) :: areFrom x (k + 1) l else areFrom x (k + 1) l
def areL (L : List Int) (x : Int) : List Int := areFrom x 0 L
/-- Pages taken into use at the beginning. -/
def newF : List Int → List Int → Option (List Int)
  | L, [] => some L
  | L, u :: us => if 0 ≤ u ∧ L[u.toNat]? = some 0 then newF (L.set u.toNat 1) us else none
def newP (pages : Int) (us : List Int) : Option (List Int) := if 1 ≤ pages ∧ pages ≤ 65536 then newF (List.replicate pages.toNat 0) us else none
theorem newF_len : ∀ {us L M : List Int}, newF L us = some M → M.length = L.length
  | [], L, M, h => by
    injection h with h
    rw [h]
  | u :: us, L, M, h => by
    unfold newF at h
    split at h
    · rw [newF_len h, List.length_set]
    · cases h
theorem newF_zeros : ∀ {us L M : List Int}, newF L us = some M → zerosN M + us.length = zerosN L
  | [], L, M, h => by
    injection h with h
    rw [h]
    rfl
  | u :: us, L, M, h => by
    unfold newF at h
    split at h
    · rename_i hu
      have h1 := newF_zeros h
      have h2 := zeros_set L u.toNat 1 hu.2 (by decide)
      simp only [List.length_cons]
      omega
    · cases h
theorem zeros_rep : ∀ n, zerosN (List.replicate n 0) = n
  | 0 => rfl
  | n + 1 => by
    rw [List.replicate_succ, zerosN, zeros_rep n]
    simp
    omega
theorem newP_is {pages : Int} {us M : List Int} (h : newP pages us = some M) : 1 ≤ pages ∧ pages ≤ 65536 ∧ (M.length : Int) = pages ∧ ((zerosN M + us.length : Nat) : Int) = pages := by
  unfold newP at h
  split at h
  · rename_i hp
    have h1 := newF_len h
    have h2 := newF_zeros h
    rw [List.length_replicate] at h1
    rw [zeros_rep] at h2
    omega
  · cases h
/-- What every place holds is one of three. -/
def three (L : List Int) : Prop := ∀ x ∈ L, x = 0 ∨ x = 1 ∨ x = 2
theorem three_set {L : List Int} (h : three L) (i : Nat) {x : Int} (hx : x = 0 ∨ x = 1 ∨ x = 2) : three (L.set i x) := fun y hy => by
  rcases List.mem_or_eq_of_mem_set hy with h1 | h1
  · exact h y h1
  · rw [h1]; exact hx
theorem newF_three : ∀ {us L M : List Int}, newF L us = some M → three L → three M
  | [], L, M, h, ht => by
    injection h with h
    rw [← h]
    exact ht
  | u :: us, L, M, h, ht => by
    unfold newF at h
    split at h
    · exact newF_three h (three_set ht _ (.inr (.inl rfl)))
    · cases h
theorem newP_three {pages : Int} {us M : List Int} (h : newP pages us = some M) : three M := by
  unfold newP at h
  split at h
  · exact newF_three h fun x hx => .inl (List.eq_of_mem_replicate hx)
  · cases h
theorem three_take {L : List Int} (h : three L) : three (takeL L) := by
  unfold takeL
  split
  · exact three_set h _ (.inr (.inl rfl))
  · exact h
theorem three_setL {L : List Int} (h : three L) (n : Int) {x : Int} (hx : x = 0 ∨ x = 1 ∨ x = 2) : three (setL L n x) := by
  unfold setL
  split
  · exact three_set h _ hx
  · exact h
theorem three_turn {L : List Int} (h : three L) : three (turnL L) := fun x hx => by
  obtain ⟨y, hy, rfl⟩ := List.mem_map.1 hx
  rcases h y hy with h1 | h1 | h1 <;> rw [h1] <;> simp
end Go.Proofs.Yteoekfmjlmpmgaa
