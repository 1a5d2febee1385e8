/- Keys stand as the rows do: plain words, no statement is proved here. -/
import Derived.Test.YtdlgngnibbaamaaDoorKey
namespace Go.Proofs.YtdlgngnibbaamaaDoor
open Go.RowKit
set_option maxRecDepth 100000

/-- Bytes that part at a place that both have, the first ones' byte being the lesser. -/
def Lt (x y : List Int) : Prop := ∃ c i j p q, x = c ++ i :: p ∧ y = c ++ j :: q ∧ i < j
theorem Lt.pre (c : List Int) {x y : List Int} (h : Lt x y) : Lt (c ++ x) (c ++ y) := by
  obtain ⟨e, i, j, p, q, rfl, rfl, h⟩ := h
  exact ⟨c ++ e, i, j, p, q, by simp, by simp, h⟩
theorem Lt.cons (c : Int) {x y : List Int} (h : Lt x y) : Lt (c :: x) (c :: y) := h.pre [c]
theorem Lt.behind {x y : List Int} (h : Lt x y) (p q : List Int) : Lt (x ++ p) (y ++ q) := by
  obtain ⟨e, i, j, p', q', rfl, rfl, h⟩ := h
  exact ⟨e, i, j, p' ++ p, q' ++ q, by simp, by simp, h⟩
theorem Lt.head {i j : Int} (h : i < j) (p q : List Int) : Lt (i :: p) (j :: q) := ⟨[], i, j, p, q, rfl, rfl, h⟩
theorem Lt.flip {x y : List Int} (h : Lt x y) : Lt (flip y) (flip x) := by
  obtain ⟨e, i, j, p, q, rfl, rfl, h⟩ := h
  exact ⟨Go.Proofs.YtdlgngnibbaamaaDoor.flip e, 255 - j, 255 - i, Go.Proofs.YtdlgngnibbaamaaDoor.flip q, Go.Proofs.YtdlgngnibbaamaaDoor.flip p, by simp [Go.Proofs.YtdlgngnibbaamaaDoor.flip], by simp [Go.Proofs.YtdlgngnibbaamaaDoor.flip], by omega⟩
/-- Two rows of bytes. -/
def cmpB (x y : List Int) : Int := lex cmpI x y
theorem Lt.cmp {x y : List Int} (h : Lt x y) : cmpB x y = -1 := by
  obtain ⟨e, i, j, p, q, rfl, rfl, h⟩ := h
  unfold cmpB
  induction e with
  | nil => simp [lex, cmpI, h]
  | cons c e ih => rw [List.cons_append, List.cons_append, lex, if_pos (cmpI_self c)]; exact ih
theorem Lt.cmp' {x y : List Int} (h : Lt x y) : cmpB y x = 1 := by
  obtain ⟨e, i, j, p, q, rfl, rfl, h⟩ := h
  unfold cmpB
  have h2 : ¬ j < i := by omega
  induction e with
  | nil => simp [lex, cmpI, h, h2]
  | cons c e ih => rw [List.cons_append, List.cons_append, lex, if_pos (cmpI_self c)]; exact ih
theorem cmpB_self (x : List Int) : cmpB x x = 0 := lex_self x fun c _ => cmpI_self c
/-- Bytes of which one begins with the others do not part. -/
theorem Lt.not_prefix {x y : List Int} (h : Lt x y) (r : List Int) : y ≠ x ++ r := by
  obtain ⟨e, i, j, p, q, rfl, rfl, h⟩ := h
  intro h2
  rw [List.append_assoc, List.append_cancel_left_eq] at h2
  injection h2 with h2 _
  omega
theorem Lt.not_prefix' {x y : List Int} (h : Lt x y) (r : List Int) : x ≠ y ++ r := by
  obtain ⟨e, i, j, p, q, rfl, rfl, h⟩ := h
  intro h2
  rw [List.append_assoc, List.append_cancel_left_eq] at h2
  injection h2 with h2 _
  omega

/-- What a comparison of two parts says of their bytes. -/
def Says (c : Int) (x y : List Int) : Prop := (c = 0 ∧ x = y) ∨ (c = -1 ∧ Lt x y) ∨ (c = 1 ∧ Lt y x)
theorem Says.flip {c : Int} {x y : List Int} (h : Says c x y) : Says (-c) (flip x) (flip y) := by
  rcases h with ⟨rfl, rfl⟩ | ⟨rfl, h⟩ | ⟨rfl, h⟩
  · exact .inl ⟨rfl, rfl⟩
  · exact .inr (.inr ⟨rfl, h.flip⟩)
  · exact .inr (.inl ⟨rfl, h.flip⟩)
theorem Says.cons {c b : Int} {x y : List Int} (h : Says c x y) : Says c (b :: x) (b :: y) := by
  rcases h with ⟨rfl, rfl⟩ | ⟨rfl, h⟩ | ⟨rfl, h⟩
  · exact .inl ⟨rfl, rfl⟩
  · exact .inr (.inl ⟨rfl, h.cons b⟩)
  · exact .inr (.inr ⟨rfl, h.cons b⟩)
/-- One part, then the others. -/
theorem Says.then_ {c e : Int} {x y p q : List Int} (h : Says c x y) (h2 : c = 0 → Says e p q) : Says (if c = 0 then e else c) (x ++ p) (y ++ q) := by
  rcases h with ⟨rfl, rfl⟩ | ⟨rfl, h⟩ | ⟨rfl, h⟩
  · rw [if_pos rfl]
    rcases h2 rfl with ⟨rfl, rfl⟩ | ⟨rfl, h⟩ | ⟨rfl, h⟩
    · exact .inl ⟨rfl, rfl⟩
    · exact .inr (.inl ⟨rfl, h.pre _⟩)
    · exact .inr (.inr ⟨rfl, h.pre _⟩)
  · rw [if_neg (by decide)]; exact .inr (.inl ⟨rfl, h.behind _ _⟩)
  · rw [if_neg (by decide)]; exact .inr (.inr ⟨rfl, h.behind _ _⟩)
theorem Says.cmp {c : Int} {x y : List Int} (h : Says c x y) : cmpB x y = c := by
  rcases h with ⟨rfl, rfl⟩ | ⟨rfl, h⟩ | ⟨rfl, h⟩
  · exact cmpB_self _
  · exact h.cmp
  · exact h.cmp'
theorem Says.swap {c : Int} {x y : List Int} (h : Says c x y) : Says (-c) y x := by
  rcases h with ⟨rfl, rfl⟩ | ⟨rfl, h⟩ | ⟨rfl, h⟩
  · exact .inl ⟨rfl, rfl⟩
  · exact .inr (.inr ⟨rfl, h⟩)
  · exact .inr (.inl ⟨rfl, h⟩)

/-- Numbers, the highest byte first. -/
theorem leB_mod (k : Nat) (n : Int) : leB k (n % 256 ^ k) = leB k n := by
  have e : n % 256 ^ k = n + 256 ^ k * (-(n / 256 ^ k)) := by
    have h1 := Int.mul_ediv_add_emod n (256 ^ k)
    rw [Int.mul_neg]; omega
  rw [e, leB_add']
where
  leB_add' (k : Nat) (n m : Int) : leB k (n + 256 ^ k * m) = leB k n := by
    induction k generalizing n with
    | zero => rfl
    | succ k ih =>
      have e : n + 256 ^ (k + 1) * m = n + 256 * (256 ^ k * m) := by rw [Int.pow_succ]; simp only [Int.mul_comm, Int.mul_left_comm]
      have h1 : (n + 256 * (256 ^ k * m)) % 256 = n % 256 := by omega
      have h2 : (n + 256 * (256 ^ k * m)) / 256 = n / 256 + 256 ^ k * m := by omega
      rw [e, leB, leB, h1, h2, ih]
theorem beB_mod (k : Nat) (n : Int) : beB k (n % 256 ^ k) = beB k n := by rw [beB, leB_mod, beB]
theorem beB_lt (k : Nat) : ∀ n m : Int, 0 ≤ n → n < m → m < 256 ^ k → Lt (beB k n) (beB k m) := by
  induction k with
  | zero => intro n m h0 h1 h2; simp at h2; omega
  | succ k ih =>
    intro n m h0 h1 h2
    rw [beB_succ, beB_succ]
    have hp : (0 : Int) < 256 ^ k := Int.pow_pos (by omega)
    have e : (256 : Int) ^ (k + 1) = 256 ^ k * 256 := Int.pow_succ ..
    have m0 : m / 256 ^ k < 256 := Int.ediv_lt_of_lt_mul hp (by rw [Int.mul_comm, ← e]; exact h2)
    have n0 : 0 ≤ n / 256 ^ k := Int.ediv_nonneg h0 (Int.le_of_lt hp)
    have nm : n / 256 ^ k ≤ m / 256 ^ k := Int.ediv_le_ediv hp (Int.le_of_lt h1)
    rw [Int.emod_eq_of_lt n0 (by omega), Int.emod_eq_of_lt (by omega) m0]
    by_cases hq : n / 256 ^ k = m / 256 ^ k
    · rw [hq]
      refine Lt.cons _ ?_
      rw [← beB_mod k n, ← beB_mod k m]
      have a1 := Int.mul_ediv_add_emod n (256 ^ k)
      have a2 := Int.mul_ediv_add_emod m (256 ^ k)
      rw [hq] at a1
      exact ih _ _ (Int.emod_nonneg _ (by omega)) (by omega) (Int.emod_lt_of_pos _ hp)
    · exact Lt.head (by omega) _ _
theorem says_int {n m : Int} (hn : okInt n) (hm : okInt m) : Says (cmpI n m) (beB 8 (n + 9223372036854775808)) (beB 8 (m + 9223372036854775808)) := by
  unfold okInt at hn hm
  have e : (256 : Int) ^ 8 = 18446744073709551616 := by decide
  rcases Int.lt_trichotomy n m with h | h | h
  · exact .inr (.inl ⟨by simp [cmpI, h], beB_lt 8 _ _ (by omega) (by omega) (by rw [e]; omega)⟩)
  · exact .inl ⟨by simp [cmpI, h], by rw [h]⟩
  · have h2 : ¬ n < m := by omega
    exact .inr (.inr ⟨by simp [cmpI, h, h2], beB_lt 8 _ _ (by omega) (by omega) (by rw [e]; omega)⟩)
theorem says_bool {n m : Int} (hn : n = 0 ∨ n = 1) (hm : m = 0 ∨ m = 1) : Says (cmpI n m) [n % 256] [m % 256] := by
  rcases hn with rfl | rfl <;> rcases hm with rfl | rfl
  · exact .inl ⟨rfl, rfl⟩
  · exact .inr (.inl ⟨rfl, Lt.head (by decide) _ _⟩)
  · exact .inr (.inr ⟨rfl, Lt.head (by decide) _ _⟩)
  · exact .inl ⟨rfl, rfl⟩

/-- Texts. -/
def byI (l : List UInt8) : List Int := l.map fun b => (b.toNat : Int)
theorem keyT_lt (a : List UInt8) : ∀ b : List UInt8, Op.bytesLess a b = true → Lt (keyT (byI a)) (keyT (byI b)) := by
  induction a with
  | nil =>
    intro b h
    cases b with
    | nil => simp [Op.bytesLess] at h
    | cons y r =>
      simp only [byI, List.map_cons, List.map_nil, keyT]
      split
      · exact Lt.cons 0 (Lt.head (by omega) _ _)
      · exact Lt.head (by omega) _ _
  | cons x r ih =>
    intro b h
    cases b with
    | nil => simp [Op.bytesLess] at h
    | cons y r' =>
      simp only [byI, List.map_cons, keyT]
      simp only [Op.bytesLess] at h
      by_cases hxy : x = y
      · subst hxy
        have h2 : Op.bytesLess r r' = true := by simpa using h
        split
        · exact Lt.cons 0 (Lt.cons 255 (ih r' h2))
        · exact Lt.cons _ (ih r' h2)
      · have h2 : x.toNat < y.toNat := by
          have : x < y := by simpa [hxy] using h
          exact this
        split
        · rw [if_neg (by omega)]; exact Lt.head (by omega) _ _
        · rw [if_neg (by omega)]; exact Lt.head (by omega) _ _
theorem says_text (s t : ByteArray) : Says (cmpS s t) (keyT (bsI s)) (keyT (bsI t)) := by
  unfold cmpS ltS
  split
  · rename_i h
    rw [Lib.toList_data, Lib.toList_data] at h
    exact .inr (.inl ⟨rfl, keyT_lt _ _ h⟩)
  · rename_i h
    split
    · rename_i h2
      refine .inl ⟨rfl, ?_⟩
      simp at h2
      rw [Lib.toList_data, Lib.toList_data] at h2
      rw [bsI, bsI, h2]
    · rename_i h2
      have h3 := bytes_total s.toList t.toList
      simp at h2
      rcases h3 with h3 | h3 | h3
      · exact absurd h3 h
      · exact absurd h3 h2
      · rw [Lib.toList_data, Lib.toList_data] at h3
        exact .inr (.inr ⟨rfl, keyT_lt _ _ h3⟩)
where
  bytes_total (a b : List UInt8) : Op.bytesLess a b = true ∨ a = b ∨ Op.bytesLess b a = true := by
    induction a generalizing b with
    | nil => cases b <;> simp [Op.bytesLess]
    | cons x r ih =>
      cases b with
      | nil => simp [Op.bytesLess]
      | cons y r' =>
        simp only [Op.bytesLess]
        by_cases hxy : x = y
        · subst hxy
          rcases ih r' with h | h | h
          · exact .inl (by simp [h])
          · exact .inr (.inl (by rw [h]))
          · exact .inr (.inr (by simp [h]))
        · rcases UInt8.lt_or_lt_of_ne hxy with h | h
          · exact .inl (by simp [h])
          · exact .inr (.inr (by simp [h]))
/-- Twelve bytes as they stand. -/
theorem says_id (s t : ByteArray) (hl : s.size = t.size) : Says (cmpS s t) (bsI s) (bsI t) := by
  have main : ∀ a b : List UInt8, a.length = b.length → Op.bytesLess a b = true → Lt (byI a) (byI b) := by
    intro a
    induction a with
    | nil => intro b hl h; cases b with
      | nil => simp [Op.bytesLess] at h
      | cons y r => simp at hl
    | cons x r ih =>
      intro b hl h
      cases b with
      | nil => simp at hl
      | cons y r' =>
        simp only [byI, List.map_cons]
        simp only [Op.bytesLess] at h
        by_cases hxy : x = y
        · subst hxy
          exact Lt.cons _ (ih r' (by simpa using hl) (by simpa using h))
        · have h2 : x.toNat < y.toNat := by
            have : x < y := by simpa [hxy] using h
            exact this
          exact Lt.head (by omega) _ _
  have hl2 : s.data.toList.length = t.data.toList.length := by simpa using hl
  unfold cmpS ltS
  split
  · rename_i h
    rw [Lib.toList_data, Lib.toList_data] at h
    exact .inr (.inl ⟨rfl, main _ _ hl2 h⟩)
  · rename_i h
    split
    · rename_i h2
      refine .inl ⟨rfl, ?_⟩
      simp at h2
      rw [Lib.toList_data, Lib.toList_data] at h2
      rw [bsI, bsI, h2]
    · rename_i h2
      have h3 := says_text.bytes_total s.toList t.toList
      simp at h2
      rcases h3 with h3 | h3 | h3
      · exact absurd h3 h
      · exact absurd h3 h2
      · rw [Lib.toList_data, Lib.toList_data] at h3
        exact .inr (.inr ⟨rfl, main _ _ hl2.symm h3⟩)

theorem says_list (l : List V) : ∀ l' : List V, (∀ x ∈ l, ∀ y ∈ l', Says (cmpV x y) (keyV x) (keyV y)) → Says (cmpL l l') (keyL l) (keyL l') := by
  induction l with
  | nil =>
    intro l' _
    cases l' with
    | nil => exact .inl ⟨by rw [cmpL], rfl⟩
    | cons y r => rw [cmpL, keyL, keyL]; exact .inr (.inl ⟨rfl, Lt.head (by omega) _ _⟩)
  | cons x r ih =>
    intro l' h
    cases l' with
    | nil => rw [cmpL, keyL, keyL]; exact .inr (.inr ⟨rfl, Lt.head (by omega) _ _⟩)
    | cons y r' =>
      rw [cmpL, keyL, keyL]
      exact ((h x (by simp) y (by simp)).then_ fun _ => ih r' fun z hz w hw => h z (by simp [hz]) w (by simp [hw])).cons
theorem says_doc (l : List (ByteArray × V)) : ∀ l' : List (ByteArray × V), (∀ x ∈ l, ∀ y ∈ l', Says (cmpV x.2 y.2) (keyV x.2) (keyV y.2)) → Says (cmpD l l') (keyD l) (keyD l') := by
  induction l with
  | nil =>
    intro l' _
    cases l' with
    | nil => exact .inl ⟨by rw [cmpD], rfl⟩
    | cons y r => obtain ⟨t, y⟩ := y; rw [cmpD, keyD, keyD]; exact .inr (.inl ⟨rfl, Lt.head (by omega) _ _⟩)
  | cons x r ih =>
    intro l' h
    obtain ⟨s, x⟩ := x
    cases l' with
    | nil => rw [cmpD, keyD, keyD]; exact .inr (.inr ⟨rfl, Lt.head (by omega) _ _⟩)
    | cons y r' =>
      obtain ⟨t, y⟩ := y
      rw [cmpD, keyD, keyD]
      have h1 := h (s, x) (by simp) (t, y) (by simp)
      have h2 := ih r' fun z hz w hw => h z (by simp [hz]) w (by simp [hw])
      have hF : cmpF s x t y = if cmpS s t = 0 then cmpV x y else cmpS s t := by
        rw [cmpF]
        unfold cmpS
        by_cases he : s.toList = t.toList
        · rw [he]
          have hl : ltS s t = false := by
            unfold ltS; rw [he]; exact less_self _
          simp [hl]
        · have hb : (s.toList == t.toList) = false := by simp [he]
          rw [hb]
          cases ltS s t <;> simp
      have h3 : Says (if cmpF s x t y = 0 then cmpD r r' else cmpF s x t y) ((keyT (bsI s) ++ keyV x) ++ keyD r) ((keyT (bsI t) ++ keyV y) ++ keyD r') := by
        refine Says.then_ ?_ fun _ => h2
        rw [hF]
        exact (says_text s t).then_ fun _ => h1
      rw [List.append_assoc, List.append_assoc] at h3
      exact h3.cons
where
  less_self (a : List UInt8) : Op.bytesLess a a = false := by
    induction a with
    | nil => rfl
    | cons x r ih => simp [Op.bytesLess, ih]

/-- Two values that may be. -/
theorem says_value (u : V) : ∀ v : V, u.shape = true → v.shape = true → u.fit → v.fit → Says (cmpV u v) (keyV u) (keyV v) := by
  induction u using V.ind with
  | h k n s l d ihl ihd =>
  intro v su sv fu fv
  obtain ⟨k', n', s', l', d'⟩ := v
  obtain ⟨⟨-, hf⟩, hl, hd⟩ := (V.shape_mk ..).1 su
  obtain ⟨⟨-, hf'⟩, hl', hd'⟩ := (V.shape_mk ..).1 sv
  obtain ⟨⟨-, on⟩, ol, od⟩ := (V.fit_mk ..).1 fu
  obtain ⟨⟨-, on'⟩, ol', od'⟩ := (V.fit_mk ..).1 fv
  obtain ⟨k1, k2, f8, f9⟩ := fits_cases hf
  obtain ⟨k1', k2', f8', f9'⟩ := fits_cases hf'
  rw [cmpV, keyV, keyV]
  by_cases hk : k = k'
  · subst hk
    rw [if_neg (by simp)]
    refine Says.cons ?_
    by_cases h3 : k = 3 ∨ k = 10
    · rw [if_pos (by omega), if_pos h3, if_pos h3]; exact says_int on on'
    rw [if_neg h3, if_neg h3]
    by_cases h9 : k = 9
    · rw [if_pos (by omega), if_pos h9, if_pos h9]; exact says_bool (f9 h9) (f9' h9)
    rw [if_neg (by omega), if_neg h9, if_neg h9]
    by_cases h4 : k = 4 ∨ k = 7
    · rw [if_pos (by omega), if_pos h4, if_pos h4]; exact says_text s s'
    rw [if_neg h4, if_neg h4]
    by_cases h8 : k = 8
    · rw [if_pos (by omega), if_pos h8, if_pos h8]; exact says_id s s' (by rw [f8 h8, f8' h8])
    rw [if_neg (by omega), if_neg h8, if_neg h8]
    by_cases h6 : k = 6
    · rw [if_pos h6, if_pos h6, if_pos h6]
      exact says_list l l' fun x hx y hy => ihl x hx y (hl x hx) (hl' y hy) (ol x hx) (ol' y hy)
    rw [if_neg h6, if_neg h6, if_neg h6]
    by_cases h5 : k = 5
    · rw [if_pos h5, if_pos h5, if_pos h5]
      exact says_doc d d' fun x hx y hy => ihd x hx y.2 (hd x hx) (hd' y hy) (od x hx) (od' y hy)
    rw [if_neg h5, if_neg h5, if_neg h5]
    exact .inl ⟨rfl, rfl⟩
  · have e1 : k % 256 = k := by omega
    have e2 : k' % 256 = k' := by omega
    rw [if_pos hk, e1, e2]
    rcases Int.lt_or_gt_of_ne hk with h | h
    · exact .inr (.inl ⟨by simp [cmpI, h], Lt.head h _ _⟩)
    · have h2 : ¬ k < k' := by omega
      exact .inr (.inr ⟨by simp [cmpI, h, h2], Lt.head h _ _⟩)

/-- Two rows, some of whose values fall. -/
def cmpR : List V → List V → List Bool → Int
  | x :: r, y :: r', b :: d => if (if b then -cmpV x y else cmpV x y) = 0 then cmpR r r' d else (if b then -cmpV x y else cmpV x y)
  | _, _, _ => 0
theorem says_row (desc : List Bool) : ∀ a b : List V, a.length = desc.length → b.length = desc.length → (∀ x ∈ a, x.shape = true ∧ x.fit) → (∀ x ∈ b, x.shape = true ∧ x.fit) → Says (cmpR a b desc) (keyR a desc) (keyR b desc) := by
  induction desc with
  | nil =>
    intro a b ha hb _ _
    have : a = [] := List.eq_nil_of_length_eq_zero ha
    have : b = [] := List.eq_nil_of_length_eq_zero hb
    subst a b
    exact .inl ⟨rfl, rfl⟩
  | cons c desc ih =>
    intro a b ha hb sa sb
    cases a with
    | nil => simp at ha
    | cons x r =>
      cases b with
      | nil => simp at hb
      | cons y r' =>
        have h1 := says_value x y (sa x (by simp)).1 (sb y (by simp)).1 (sa x (by simp)).2 (sb y (by simp)).2
        have h2 := ih r r' (by simpa using ha) (by simpa using hb) (fun z hz => sa z (by simp [hz])) (fun z hz => sb z (by simp [hz]))
        rw [cmpR, keyR, keyR]
        refine Says.then_ ?_ fun _ => h2
        cases c
        · exact h1
        · exact h1.flip
end Go.Proofs.YtdlgngnibbaamaaDoor
