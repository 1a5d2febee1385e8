/- Rows in order, plainly: what a stable sort makes is fixed. No statement is proved here. -/
import Derived.Test.YtlmlehjfockkpaaDoorOrder
import Derived.Test.YtlmlehjfockkpaaDoorSorted
namespace Go.Proofs.YtlmlehjfockkpaaDoor
open Go.RowKit
set_option maxRecDepth 100000

section
variable {α : Type} (f : α → α → Int)
/-- An order of which items may be alike. -/
structure Pre (f : α → α → Int) : Prop where
  self : ∀ a, f a a = 0
  anti : ∀ a b, f a b = - f b a
  trans : ∀ a b c, f a b ≤ 0 → f b c ≤ 0 → f a c ≤ 0
variable {f}
def Ord (f : α → α → Int) (l : List α) : Prop := l.Pairwise fun a b => f a b ≤ 0
/-- Those of a row that are alike to one. -/
def class_ (f : α → α → Int) (a : α) (l : List α) : List α := l.filter fun x => f a x == 0

theorem mergeG_ord (P : Pre f) : ∀ (n : Nat) (l r : List α), l.length + r.length ≤ n → Ord f l → Ord f r → Ord f (mergeG f l r) := by
  intro n
  induction n with
  | zero =>
    intro l r h hl hr
    have h1 : l = [] := List.eq_nil_of_length_eq_zero (by omega)
    subst h1
    rw [mergeG]; exact hr
  | succ n ih =>
    intro l r h hl hr
    cases l with
    | nil => rw [mergeG]; exact hr
    | cons x l =>
      cases r with
      | nil => rw [mergeG_nil]; exact hl
      | cons y r =>
        rw [mergeG]
        simp only [List.length_cons] at h
        have hl2 := List.pairwise_cons.1 hl
        have hr2 := List.pairwise_cons.1 hr
        split
        · rename_i hxy
          refine List.pairwise_cons.2 ⟨fun z hz => ?_, ih l (y :: r) (by simp; omega) hl2.2 hr⟩
          rcases List.mem_append.1 ((mergeG_perm f _ l (y :: r) (Nat.le_refl _)).mem_iff.1 hz) with hz | hz
          · exact hl2.1 z hz
          · rcases List.mem_cons.1 hz with rfl | hz
            · exact hxy
            · exact P.trans _ _ _ hxy (hr2.1 z hz)
        · rename_i hxy
          have hyx : f y x ≤ 0 := by rw [P.anti]; omega
          refine List.pairwise_cons.2 ⟨fun z hz => ?_, ih (x :: l) r (by simp; omega) hl hr2.2⟩
          rcases List.mem_append.1 ((mergeG_perm f _ (x :: l) r (Nat.le_refl _)).mem_iff.1 hz) with hz | hz
          · rcases List.mem_cons.1 hz with rfl | hz
            · exact hyx
            · exact P.trans _ _ _ hyx (hl2.1 z hz)
          · exact hr2.1 z hz
theorem sortG_ord (P : Pre f) : ∀ (n : Nat) (l : List α), l.length ≤ n → Ord f (sortG f l) := by
  intro n
  induction n with
  | zero =>
    intro l h
    obtain rfl : l = [] := List.eq_nil_of_length_eq_zero (by omega)
    rw [sortG, dif_pos (by simp)]; exact List.Pairwise.nil
  | succ n ih =>
    intro l h
    rw [sortG]
    split
    · match l, ‹l.length < 2› with
      | [], _ => exact List.Pairwise.nil
      | [x], _ => exact List.pairwise_cons.2 ⟨by simp, List.Pairwise.nil⟩
    · exact mergeG_ord P _ _ _ (Nat.le_refl _) (ih _ (by simp; omega)) (ih _ (by simp; omega))

theorem class_append (a : α) (l r : List α) : class_ f a (l ++ r) = class_ f a l ++ class_ f a r := List.filter_append ..
theorem class_cons (a x : α) (l : List α) : class_ f a (x :: l) = if f a x = 0 then x :: class_ f a l else class_ f a l := by
  unfold class_
  rw [List.filter_cons]
  by_cases h : f a x = 0 <;> simp [h]
/-- Ahead of what stands behind an item nothing is alike to that. -/
theorem class_none (P : Pre f) {a x : α} {l : List α} (h : ∀ z ∈ l, f x z ≤ 0) (hx : 0 < f x a) : class_ f a l = [] := by
  unfold class_
  rw [List.filter_eq_nil_iff]
  intro z hz he
  have h0 : f a z = 0 := by simpa using he
  have h1 := h z hz
  have h2 : f z a ≤ 0 := by rw [P.anti]; omega
  have := P.trans _ _ _ h1 h2
  omega
theorem mergeG_class (P : Pre f) (a : α) : ∀ (n : Nat) (l r : List α), l.length + r.length ≤ n → Ord f l → class_ f a (mergeG f l r) = class_ f a (l ++ r) := by
  intro n
  induction n with
  | zero =>
    intro l r h hl
    have h1 : l = [] := List.eq_nil_of_length_eq_zero (by omega)
    subst h1
    rw [mergeG]; rfl
  | succ n ih =>
    intro l r h hl
    cases l with
    | nil => rw [mergeG]; rfl
    | cons x l =>
      cases r with
      | nil => rw [mergeG_nil, List.append_nil]
      | cons y r =>
        rw [mergeG]
        simp only [List.length_cons] at h
        have hl2 := List.pairwise_cons.1 hl
        split
        · rw [List.cons_append, class_cons, class_cons, ih l (y :: r) (by simp; omega) hl2.2]
        · rename_i hxy
          rw [class_cons, ih (x :: l) r (by simp; omega) hl, class_append, class_append, class_cons (x := y)]
          by_cases hy : f a y = 0
          · rw [if_pos hy, if_pos hy]
            have hxa : 0 < f x a := by
              rcases (by omega : 0 < f x a ∨ f x a ≤ 0) with h1 | h1
              · exact h1
              · have := P.trans _ _ _ h1 (by omega : f a y ≤ 0); omega
            have hn : class_ f a (x :: l) = [] := class_none P (x := x) (fun z hz => by
              rcases List.mem_cons.1 hz with rfl | hz
              · rw [P.self]; omega
              · exact hl2.1 z hz) hxa
            rw [hn]; rfl
          · rw [if_neg hy, if_neg hy]
theorem sortG_class (P : Pre f) (a : α) : ∀ (n : Nat) (l : List α), l.length ≤ n → class_ f a (sortG f l) = class_ f a l := by
  intro n
  induction n with
  | zero => intro l h; rw [sortG, dif_pos (by omega)]
  | succ n ih =>
    intro l h
    rw [sortG]
    split
    · rfl
    · rw [mergeG_class P a _ _ _ (Nat.le_refl _) (sortG_ord P _ _ (Nat.le_refl _)), class_append, ih _ (by simp; omega), ih _ (by simp; omega), ← class_append, List.take_append_drop]
/-- Two rows in order in which those that are alike stand alike are the same. -/
theorem ord_unique (P : Pre f) : ∀ (l r : List α), Ord f l → Ord f r → (∀ a, class_ f a l = class_ f a r) → l = r := by
  intro l
  induction l with
  | nil =>
    intro r _ _ h
    cases r with
    | nil => rfl
    | cons y r => have := h y; rw [class_cons, if_pos (P.self y)] at this; simp [class_] at this
  | cons x l ih =>
    intro r hl hr h
    cases r with
    | nil => have := h x; rw [class_cons, if_pos (P.self x)] at this; simp [class_] at this
    | cons y r =>
      have hl2 := List.pairwise_cons.1 hl
      have hr2 := List.pairwise_cons.1 hr
      have hx : x ∈ class_ f x (y :: r) := by rw [← h x, class_cons, if_pos (P.self x)]; exact List.mem_cons_self ..
      have hy : y ∈ class_ f y (x :: l) := by rw [h y, class_cons, if_pos (P.self y)]; exact List.mem_cons_self ..
      have hx2 := (List.mem_filter.1 hx).1
      have hy2 := (List.mem_filter.1 hy).1
      have hyx : f y x ≤ 0 := by
        rcases List.mem_cons.1 hx2 with e | hm
        · rw [e, P.self]; omega
        · exact hr2.1 x hm
      have hxy : f x y ≤ 0 := by
        rcases List.mem_cons.1 hy2 with e | hm
        · rw [e, P.self]; omega
        · exact hl2.1 y hm
      have h0 : f x y = 0 := by have := P.anti x y; omega
      have hc := h x
      rw [class_cons, class_cons, if_pos (P.self x), if_pos h0] at hc
      injection hc with e1 e2
      subst e1
      rw [ih r hl2.2 hr2.2 (fun a => by
        have := h a
        rw [class_cons, class_cons] at this
        split at this
        · injection this
        · exact this)]
/-- An item laid into a row in order, behind those that are alike. -/
theorem insert_ord (P : Pre f) {l r : List α} {x : α} (h : Ord f (l ++ r)) (h1 : ∀ z ∈ l, f z x ≤ 0) (h2 : ∀ z ∈ r, 0 < f z x) : Ord f (l ++ x :: r) := by
  unfold Ord at h ⊢
  rw [List.pairwise_append] at h ⊢
  obtain ⟨a1, a2, a3⟩ := h
  refine ⟨a1, List.pairwise_cons.2 ⟨fun z hz => by have := h2 z hz; rw [P.anti]; omega, a2⟩, fun a ha b hb => ?_⟩
  rcases List.mem_cons.1 hb with rfl | hb
  · exact h1 a ha
  · exact a3 a ha b hb
theorem insert_class (P : Pre f) {l r : List α} {x : α} (h2 : ∀ z ∈ r, 0 < f z x) (a : α) : class_ f a (l ++ x :: r) = class_ f a (l ++ r ++ [x]) := by
  rw [class_append, class_append, class_append, class_cons]
  by_cases hx : f a x = 0
  · have hn : class_ f a r = [] := by
      unfold class_
      rw [List.filter_eq_nil_iff]
      intro z hz he
      have h0 : f a z = 0 := by simpa using he
      have h3 := h2 z hz
      have h4 : f z a ≤ 0 := by rw [P.anti]; omega
      have := P.trans _ _ _ h4 (by omega : f a x ≤ 0)
      omega
    rw [if_pos hx, hn, class_cons, if_pos hx]
    simp [class_]
  · rw [if_neg hx, class_cons, if_neg hx]
    simp [class_]
end
theorem pre_cmpV : Pre cmpV := ⟨cmpV_self, fun a b => cmpV_anti a b, fun a b c h1 h2 => ((cmpV_trans a b c).1 h1 h2).1⟩
end Go.Proofs.YtlmlehjfockkpaaDoor
