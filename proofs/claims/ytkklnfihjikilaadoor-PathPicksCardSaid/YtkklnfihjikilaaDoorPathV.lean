/- What the calls of paths say, plainly, of values: no statement is proved here. -/
import Derived.Test.YtkklnfihjikilaaDoorOther
import Derived.Lib.Strings
namespace Go.Proofs.YtkklnfihjikilaaDoor
open Go.RowKit
set_option maxRecDepth 100000

/-- The number that digits make behind another; -1, if one is no digit. -/
def digFrom : List Int → Int → Int
  | [], n => n
  | c :: r, n => if c < 48 ∨ 57 < c then -1 else digFrom r (10 * n + (c - 48))
/-- A part's bytes as numbers. -/
def bytesOf (s : ByteArray) : List Int := s.data.toList.map fun b => (b.toNat : Int)
/-- The place that a part is; -1, if it is none. -/
def placeN (s : ByteArray) : Int :=
  if bytesOf s = [] then -1 else if 9 < (bytesOf s).length then -1 else if (bytesOf s).head? = some 48 ∧ bytesOf s ≠ [48] then -1 else digFrom (bytesOf s) 0

theorem digFrom_lo : ∀ (l : List Int) (n : Int), -1 ≤ n → digFrom l n = -1 ∨ (0 ≤ n → n * 10 ^ l.length ≤ digFrom l n ∧ digFrom l n < (n + 1) * 10 ^ l.length ∧ ∀ c ∈ l, 48 ≤ c ∧ c ≤ 57) := by
  intro l
  induction l with
  | nil => intro n _; exact .inr fun _ => by simp [digFrom]; omega
  | cons c r ih =>
    intro n hn
    rw [digFrom]
    by_cases h : c < 48 ∨ 57 < c
    · rw [if_pos h]; exact .inl rfl
    · rw [if_neg h]
      by_cases h0 : 0 ≤ n
      · rcases ih (10 * n + (c - 48)) (by omega) with h1 | h1
        · exact .inl h1
        · refine .inr fun _ => ?_
          obtain ⟨h2, h3, h4⟩ := h1 (by omega)
          have hp : (0 : Int) < 10 ^ r.length := Int.pow_pos (by omega)
          have e1 : n * 10 ^ (r.length + 1) = (10 * n) * 10 ^ r.length := by rw [Int.pow_succ, Int.mul_comm (10 ^ r.length) 10, ← Int.mul_assoc, Int.mul_comm n 10]
          have e2 : (n + 1) * 10 ^ (r.length + 1) = (10 * (n + 1)) * 10 ^ r.length := by rw [Int.pow_succ, Int.mul_comm (10 ^ r.length) 10, ← Int.mul_assoc, Int.mul_comm (n + 1) 10]
          rw [List.length_cons, e1, e2]
          refine ⟨Int.le_trans (Int.mul_le_mul_of_nonneg_right (by omega) (by omega)) h2, Int.lt_of_lt_of_le h3 (Int.mul_le_mul_of_nonneg_right (by omega) (by omega)), fun x hx => ?_⟩
          rcases List.mem_cons.1 hx with rfl | hx
          · omega
          · exact h4 x hx
      · exact .inr fun h => absurd h h0
theorem digFrom_inj : ∀ (a b : List Int) (n m : Int), a.length = b.length → (∀ c ∈ a, 48 ≤ c ∧ c ≤ 57) → (∀ c ∈ b, 48 ≤ c ∧ c ≤ 57) → digFrom a n = digFrom b m → n = m ∧ a = b := by
  intro a
  induction a with
  | nil =>
    intro b n m hl _ _ h
    cases b with
    | nil => exact ⟨h, rfl⟩
    | cons => simp at hl
  | cons c r ih =>
    intro b n m hl ha hb h
    cases b with
    | nil => simp at hl
    | cons d t =>
      have hc := ha c (by simp)
      have hd := hb d (by simp)
      rw [digFrom, digFrom, if_neg (by omega), if_neg (by omega)] at h
      obtain ⟨h1, h2⟩ := ih t _ _ (by simpa using hl) (fun x hx => ha x (by simp [hx])) (fun x hx => hb x (by simp [hx])) h
      exact ⟨by omega, by rw [h2, show c = d by omega]⟩
theorem placeN_cases (s : ByteArray) : placeN s = -1 ∨ (0 ≤ placeN s ∧ placeN s < 10 ^ (bytesOf s).length ∧ placeN s = digFrom (bytesOf s) 0 ∧ bytesOf s ≠ [] ∧ (bytesOf s).length ≤ 9 ∧ (∀ c ∈ bytesOf s, 48 ≤ c ∧ c ≤ 57) ∧ (bytesOf s = [48] ∨ (10 : Int) ^ ((bytesOf s).length - 1) ≤ placeN s)) := by
  unfold placeN
  split
  · exact .inl rfl
  · rename_i h0
    split
    · exact .inl rfl
    · rename_i h9
      split
      · exact .inl rfl
      · rename_i h48
        rcases digFrom_lo (bytesOf s) 0 (by omega) with h | h
        · exact .inl h
        · obtain ⟨h1, h2, h3⟩ := h (by omega)
          refine .inr ⟨by omega, by simpa using h2, rfl, h0, by omega, h3, ?_⟩
          by_cases he : bytesOf s = [48]
          · exact .inl he
          · refine .inr ?_
            cases hb : bytesOf s with
            | nil => exact absurd hb h0
            | cons c r =>
              rw [hb] at h3 h48 he
              have hc := h3 c (by simp)
              have hc2 : c ≠ 48 := fun e => h48 ⟨by simp [e], he⟩
              rw [digFrom, if_neg (by omega)]
              rcases digFrom_lo r (10 * 0 + (c - 48)) (by omega) with h | h
              · have hh := h1
                rw [hb, digFrom, if_neg (by omega), h] at hh
                simp at hh
              · obtain ⟨h4, -, -⟩ := h (by omega)
                refine Int.le_trans ?_ h4
                simp only [List.length_cons, Nat.add_sub_cancel]
                have hp : (0 : Int) < 10 ^ r.length := Int.pow_pos (by omega)
                have := Int.mul_le_mul_of_nonneg_right (a := 1) (b := 10 * 0 + (c - 48)) (c := 10 ^ r.length) (by omega) (by omega)
                simpa using this
theorem placeN_bound (s : ByteArray) : -1 ≤ placeN s ∧ placeN s ≤ 999999999 := by
  rcases placeN_cases s with h | ⟨h1, h2, -, -, h5, -⟩
  · omega
  · have : (10 : Int) ^ (bytesOf s).length ≤ 10 ^ 9 := by
      have h : (10 : Nat) ^ (bytesOf s).length ≤ 10 ^ 9 := Nat.pow_le_pow_right (by omega) h5
      exact_mod_cast h
    omega
theorem bytesOf_inj {a b : ByteArray} (h : bytesOf a = bytesOf b) : a = b := by
  unfold bytesOf at h
  have h2 : a.data.toList = b.data.toList := by
    refine List.map_inj_right (f := fun b : UInt8 => (b.toNat : Int)) (fun x y e => ?_) |>.1 h
    have e' : (x.toNat : Int) = y.toNat := e
    exact UInt8.toNat.inj (by omega)
  obtain ⟨a⟩ := a
  obtain ⟨b⟩ := b
  simp at h2
  rw [h2]
/-- Two parts that are the same place are the same part. -/
theorem placeN_inj {a b : ByteArray} (h : placeN a = placeN b) (h0 : 0 ≤ placeN a) : a = b := by
  rcases placeN_cases a with ha | ⟨-, a2, a3, a4, a5, a6, a7⟩
  · omega
  · rcases placeN_cases b with hb | ⟨-, b2, b3, b4, b5, b6, b7⟩
    · omega
    · have hmono : ∀ i j : Nat, i ≤ j → (10 : Int) ^ i ≤ 10 ^ j := fun i j hij => by
        have h : (10 : Nat) ^ i ≤ 10 ^ j := Nat.pow_le_pow_right (by omega) hij
        exact_mod_cast h
      have l0 : 0 < (bytesOf a).length := List.length_pos_iff.2 a4
      have l1 : 0 < (bytesOf b).length := List.length_pos_iff.2 b4
      have hl : (bytesOf a).length = (bytesOf b).length := by
        rcases Nat.lt_trichotomy (bytesOf a).length (bytesOf b).length with hl | hl | hl
        · exfalso
          rcases b7 with b7 | b7
          · rw [b7] at hl; simp at hl; exact a4 hl
          · have := hmono (bytesOf a).length ((bytesOf b).length - 1) (by omega)
            exact absurd (Int.lt_of_lt_of_le a2 (Int.le_trans this b7)) (by rw [h]; exact Int.lt_irrefl _)
        · exact hl
        · exfalso
          rcases a7 with a7 | a7
          · rw [a7] at hl; simp at hl; exact b4 hl
          · have := hmono (bytesOf b).length ((bytesOf a).length - 1) (by omega)
            exact absurd (Int.lt_of_lt_of_le b2 (Int.le_trans this a7)) (by rw [h]; exact Int.lt_irrefl _)
      exact bytesOf_inj (digFrom_inj _ _ 0 0 hl a6 b6 (by rw [← a3, ← b3, h])).2

/-- What stands in a value at a part. -/
def childV : V → ByteArray → Option V
  | .mk k _ _ l d, p => if k = 5 then findD d p else if k = 6 then (if 0 ≤ placeN p then l[(placeN p).toNat]? else none) else none
def atV : V → List ByteArray → Option V
  | v, [] => some v
  | v, p :: r => match childV v p with
    | none => none
    | some x => atV x r
def kindV : V → Int
  | .mk k _ _ _ _ => k
def bareV : V := .mk 5 0 ⟨#[]⟩ [] []
def nullV : V := .mk 2 0 ⟨#[]⟩ [] []
/-- A value with x at the parts, or the error. -/
def setV : V → List ByteArray → V → Int × V
  | _, [], x => (0, x)
  | .mk k n s l d, p :: r, x =>
    if k = 5 then
      (if (setV ((findD d p).getD bareV) r x).1 = 0 then (0, .mk k n s l (putD d p (setV ((findD d p).getD bareV) r x).2)) else ((setV ((findD d p).getD bareV) r x).1, zeroV))
    else if k = 6 then
      (if placeN p < 0 then (41, zeroV)
      else if placeN p < l.length then
        (if (setV (l[(placeN p).toNat]?.getD bareV) r x).1 = 0 then (0, .mk k n s (l.set (placeN p).toNat (setV (l[(placeN p).toNat]?.getD bareV) r x).2) d) else ((setV (l[(placeN p).toNat]?.getD bareV) r x).1, zeroV))
      else if 100 < placeN p + 1 - l.length then (42, zeroV)
      else (if (setV bareV r x).1 = 0 then (0, .mk k n s (l ++ List.replicate ((placeN p).toNat - l.length) nullV ++ [(setV bareV r x).2]) d) else ((setV bareV r x).1, zeroV)))
    else (41, zeroV)
/-- A value without what stands at the parts. -/
def unsetV : V → List ByteArray → V
  | v, [] => v
  | .mk k n s l d, p :: r => match childV (.mk k n s l d) p with
    | none => .mk k n s l d
    | some y =>
      if k = 5 then (if r = [] then withoutV (.mk k n s l d) p else .mk k n s l (putD d p (unsetV y r)))
      else .mk k n s (l.set (placeN p).toNat (if r = [] then nullV else unsetV y r)) d
/-- Is the one row the beginning of the other one, or the other way round? -/
def startsP : List ByteArray → List ByteArray → Bool
  | [], _ => true
  | _ :: _, [] => true
  | a :: r, b :: t => (a.toList == b.toList) && startsP r t

theorem p_find_put (d : List (ByteArray × V)) (s : ByteArray) (y : V) : findD (putD d s y) s = some y := by
  induction d with
  | nil => rw [putD, findD, if_pos (by simp)]
  | cons z r ih =>
    obtain ⟨f, z⟩ := z
    rw [putD]
    split
    · rename_i h; rw [findD, if_pos h]
    · rename_i h; rw [findD, if_neg h, ih]
theorem p_find_put_other (d : List (ByteArray × V)) (s o : ByteArray) (y : V) (ho : ¬ o.toList = s.toList) : findD (putD d s y) o = findD d o := by
  induction d with
  | nil =>
    have h2 : ¬ (s.toList == o.toList) = true := by simp; exact fun e => ho e.symm
    simp only [putD, findD]
    rw [if_neg h2]
  | cons z r ih =>
    obtain ⟨f, z⟩ := z
    rw [putD]
    split
    · rename_i h
      have h1 : f.toList = s.toList := by simpa using h
      have h2 : ¬ (f.toList == o.toList) = true := by simp; exact fun e => ho (e.symm.trans h1)
      rw [findD, findD, if_neg h2, if_neg h2]
    · rw [findD, findD, ih]
theorem p_find_out (d : List (ByteArray × V)) (s : ByteArray) : findD (d.filter fun f => other s f.1) s = none := by
  induction d with
  | nil => rfl
  | cons z r ih =>
    obtain ⟨f, z⟩ := z
    rw [List.filter_cons]
    split
    · rename_i h
      have h1 : ¬ (f.toList == s.toList) = true := by simpa [other] using h
      rw [findD, if_neg h1, ih]
    · exact ih
theorem p_find_out_other (d : List (ByteArray × V)) (s o : ByteArray) (ho : ¬ o.toList = s.toList) : findD (d.filter fun f => other s f.1) o = findD d o := by
  induction d with
  | nil => rfl
  | cons z r ih =>
    obtain ⟨f, z⟩ := z
    rw [List.filter_cons]
    split
    · rw [findD, findD, ih]
    · rename_i h
      have h1 : f.toList = s.toList := by simpa [other] using h
      have h2 : ¬ (f.toList == o.toList) = true := by simp; exact fun e => ho (e.symm.trans h1)
      rw [findD, if_neg h2, ih]
theorem p_find_same (d : List (ByteArray × V)) (s o : ByteArray) (h : o.toList = s.toList) : findD d o = findD d s := by
  induction d with
  | nil => rfl
  | cons z r ih =>
    obtain ⟨f, z⟩ := z
    rw [findD, findD, h, ih]
theorem p_bytes_eq {s s' : ByteArray} (h : s.toList = s'.toList) : s = s' := by
  rw [Lib.toList_data, Lib.toList_data] at h
  obtain ⟨s⟩ := s
  obtain ⟨s'⟩ := s'
  simp at h
  rw [h]

theorem at_set : ∀ (p : List ByteArray) (v x s : V), setV v p x = (0, s) → atV s p = some x := by
  intro p
  induction p with
  | nil =>
    intro v x s h
    rw [setV] at h
    injection h with _ h
    rw [atV, h]
  | cons p r ih =>
    rintro ⟨k, n, t, l, d⟩ x s h
    rw [setV] at h
    by_cases h5 : k = 5
    · rw [if_pos h5] at h
      split at h
      · rename_i h0
        injection h with _ h
        subst h
        rw [atV, childV, if_pos h5, p_find_put]
        exact ih ((findD d p).getD bareV) x _ (by rw [← h0])
      · rename_i h0; injection h with h1 _; exact absurd h1 h0
    · rw [if_neg h5] at h
      by_cases h6 : k = 6
      · rw [if_pos h6] at h
        split at h
        · injection h with h _; cases h
        · rename_i hp
          split at h
          · rename_i hlt
            split at h
            · rename_i h0
              injection h with _ h
              subst h
              rw [atV, childV, if_neg h5, if_pos h6, if_pos (by omega), List.getElem?_set_self (by omega)]
              exact ih _ x _ (by rw [← h0])
            · rename_i h0; injection h with h1 _; exact absurd h1 h0
          · rename_i hlt
            split at h
            · injection h with h _; cases h
            · split at h
              · rename_i h0
                injection h with _ h
                subst h
                rw [atV, childV, if_neg h5, if_pos h6, if_pos (by omega), List.getElem?_append_right (by simp; omega)]
                rw [show (placeN p).toNat - (l ++ List.replicate ((placeN p).toNat - l.length) nullV).length = 0 by simp; omega]
                exact ih _ x _ (by rw [← h0])
              · rename_i h0; injection h with h1 _; exact absurd h1 h0
      · rw [if_neg h6] at h
        injection h with h _; cases h

theorem at_set_other : ∀ (p q : List ByteArray) (v x s y : V), setV v p x = (0, s) → startsP p q = false → atV v q = some y → atV s q = some y := by
  intro p
  induction p with
  | nil => intro q v x s y _ h; simp [startsP] at h
  | cons p r ih =>
    rintro (_ | ⟨q, t⟩) ⟨k, n, u, l, d⟩ x s y h hq hy
    · simp [startsP] at hq
    · rw [startsP, Bool.and_eq_false_iff] at hq
      rw [atV] at hy
      cases hc : childV (.mk k n u l d) q with
      | none => rw [hc] at hy; cases hy
      | some c =>
        rw [hc] at hy
        rw [setV] at h
        rw [childV] at hc
        by_cases h5 : k = 5
        · rw [if_pos h5] at h hc
          split at h
          · rename_i h0
            injection h with _ h
            subst h
            rw [atV, childV, if_pos h5]
            by_cases e : q.toList = p.toList
            · have e2 := p_bytes_eq e
              subst e2
              rw [p_find_put]
              simp only [beq_self_eq_true, false_or, reduceCtorEq] at hq
              refine ih t ((findD d q).getD bareV) x _ y (by rw [← h0]) hq ?_
              rw [hc]
              exact hy
            · rw [p_find_put_other _ _ _ _ e, hc]
              exact hy
          · rename_i h0; injection h with h1 _; exact absurd h1 h0
        · rw [if_neg h5] at h hc
          by_cases h6 : k = 6
          · rw [if_pos h6] at h hc
            split at hc
            · rename_i q0
              have hql : (placeN q).toNat < l.length := (List.getElem?_eq_some_iff.1 hc).1
              split at h
              · injection h with h _; cases h
              · rename_i hp
                split at h
                · rename_i hlt
                  split at h
                  · rename_i h0
                    injection h with _ h
                    subst h
                    rw [atV, childV, if_neg h5, if_pos h6, if_pos q0]
                    by_cases e : placeN p = placeN q
                    · have e2 := placeN_inj e (by omega)
                      subst e2
                      rw [List.getElem?_set_self (by omega)]
                      simp only [beq_self_eq_true, false_or, reduceCtorEq] at hq
                      refine ih t _ x _ y (by rw [← h0]) hq ?_
                      rw [hc]
                      exact hy
                    · rw [List.getElem?_set_ne (by omega), hc]
                      exact hy
                  · rename_i h0; injection h with h1 _; exact absurd h1 h0
                · rename_i hlt
                  split at h
                  · injection h with h _; cases h
                  · split at h
                    · rename_i h0
                      injection h with _ h
                      subst h
                      rw [atV, childV, if_neg h5, if_pos h6, if_pos q0, List.append_assoc, List.getElem?_append_left hql, hc]
                      exact hy
                    · rename_i h0; injection h with h1 _; exact absurd h1 h0
            · cases hc
          · rw [if_neg h6] at h
            injection h with h _; cases h

theorem at_unset : ∀ (p : List ByteArray) (v : V), p ≠ [] → atV (unsetV v p) p = none ∨ ∃ x, atV (unsetV v p) p = some x ∧ kindV x = 2 := by
  intro p
  induction p with
  | nil => intro v h; exact absurd rfl h
  | cons p r ih =>
    rintro ⟨k, n, u, l, d⟩ -
    rw [unsetV]
    cases hc : childV (.mk k n u l d) p with
    | none => left; rw [atV, hc]
    | some y =>
      simp only
      rw [childV] at hc
      by_cases h5 : k = 5
      · rw [if_pos h5] at hc ⊢
        by_cases hr : r = []
        · rw [if_pos hr, withoutV, if_pos h5, atV, childV, if_pos rfl, p_find_out]
          exact .inl rfl
        · rw [if_neg hr, atV, childV, if_pos h5, p_find_put]
          exact ih y hr
      · rw [if_neg h5] at hc ⊢
        split at hc
        · rename_i h6
          split at hc
          · rename_i h0
            have hl := (List.getElem?_eq_some_iff.1 hc).1
            rw [atV, childV, if_neg h5, if_pos h6, if_pos h0, List.getElem?_set_self (by omega)]
            simp only
            by_cases hr : r = []
            · subst hr
              rw [if_pos rfl, atV]
              exact .inr ⟨_, rfl, rfl⟩
            · rw [if_neg hr]
              exact ih y hr
          · cases hc
        · cases hc

theorem at_unset_other : ∀ (p q : List ByteArray) (v : V), startsP p q = false → atV (unsetV v p) q = atV v q := by
  intro p
  induction p with
  | nil => intro q v h; simp [startsP] at h
  | cons p r ih =>
    rintro (_ | ⟨q, t⟩) ⟨k, n, u, l, d⟩ hq
    · simp [startsP] at hq
    · rw [startsP, Bool.and_eq_false_iff] at hq
      rw [unsetV]
      cases hc : childV (.mk k n u l d) p with
      | none => rfl
      | some y =>
        simp only
        rw [childV] at hc
        by_cases h5 : k = 5
        · rw [if_pos h5] at hc ⊢
          by_cases e : q.toList = p.toList
          · have e2 := p_bytes_eq e
            subst e2
            simp only [beq_self_eq_true, false_or, reduceCtorEq] at hq
            have hr : r ≠ [] := by rintro rfl; simp [startsP] at hq
            rw [if_neg hr, atV, atV, childV, if_pos h5, p_find_put, childV, if_pos h5, hc]
            exact ih t y hq
          · by_cases hr : r = []
            · rw [if_pos hr, withoutV, if_pos h5, atV, atV, childV, if_pos rfl, p_find_out_other _ _ _ e, childV, if_pos h5]
            · rw [if_neg hr, atV, atV, childV, if_pos h5, p_find_put_other _ _ _ _ e, childV, if_pos h5]
        · rw [if_neg h5] at hc ⊢
          split at hc
          · rename_i h6
            split at hc
            · rename_i h0
              have hl := (List.getElem?_eq_some_iff.1 hc).1
              rw [atV, atV, childV, if_neg h5, if_pos h6, childV, if_neg h5, if_pos h6]
              by_cases q0 : 0 ≤ placeN q
              · rw [if_pos q0, if_pos q0]
                by_cases e : placeN p = placeN q
                · have e2 := placeN_inj e (by omega)
                  subst e2
                  simp only [beq_self_eq_true, false_or, reduceCtorEq] at hq
                  have hr : r ≠ [] := by rintro rfl; simp [startsP] at hq
                  rw [if_neg hr, List.getElem?_set_self (by omega), hc]
                  exact ih t y hq
                · rw [List.getElem?_set_ne (by omega)]
              · rw [if_neg q0, if_neg q0]
            · cases hc
          · cases hc

mutual
/-- The values to which parts lead. -/
def metV : V → List ByteArray → List V
  | .mk k n s l d, [] => [.mk k n s l d]
  | .mk k _ _ l d, p :: r => if k = 6 then metEach l (p :: r) ++ (if placeN p < l.length then metNth l (placeN p) r else []) else if k = 5 then metFind d p r else [zeroV]
def metEach : List V → List ByteArray → List V
  | [], _ => []
  | x :: t, ps => (if kindV x = 5 then metV x ps else []) ++ metEach t ps
def metNth : List V → Int → List ByteArray → List V
  | [], _, _ => []
  | x :: t, i, r => if i = 0 then metV x r else metNth t (i - 1) r
def metFind : List (ByteArray × V) → ByteArray → List ByteArray → List V
  | [], _, _ => [zeroV]
  | (f, x) :: t, p, r => if f.toList == p.toList then metV x r else metFind t p r
end
theorem metNth_get (r : List ByteArray) : ∀ (l : List V) (i : Int), 0 ≤ i → metNth l i r = match l[i.toNat]? with | some x => metV x r | none => [] := by
  intro l
  induction l with
  | nil => intro i _; simp [metNth]
  | cons x t ih =>
    intro i hi
    rw [metNth]
    by_cases h : i = 0
    · subst h; simp
    · rw [if_neg h, ih _ (by omega)]
      obtain ⟨j, rfl⟩ : ∃ j : Nat, i = j + 1 := ⟨(i - 1).toNat, by omega⟩
      have e1 : ((j : Int) + 1 - 1).toNat = j := by omega
      have e2 : ((j : Int) + 1).toNat = j + 1 := by omega
      rw [e1, e2, List.getElem?_cons_succ]
theorem metNth_neg (r : List ByteArray) : ∀ (l : List V) (i : Int), i < 0 → metNth l i r = [] := by
  intro l
  induction l with
  | nil => intro i _; rw [metNth]
  | cons x t ih => intro i hi; rw [metNth, if_neg (by omega), ih _ (by omega)]
theorem metFind_find (p : ByteArray) (r : List ByteArray) : ∀ (d : List (ByteArray × V)), metFind d p r = match findD d p with | some x => metV x r | none => [zeroV] := by
  intro d
  induction d with
  | nil => rw [metFind, findD]
  | cons z t ih =>
    obtain ⟨f, x⟩ := z
    rw [metFind, findD]
    split
    · rfl
    · exact ih
theorem met_at : ∀ (p : List ByteArray) (v x : V), atV v p = some x → x ∈ metV v p := by
  intro p
  induction p with
  | nil =>
    rintro ⟨k, n, s, l, d⟩ x h
    rw [atV] at h
    injection h with h
    rw [metV, h]
    simp
  | cons p r ih =>
    rintro ⟨k, n, s, l, d⟩ x h
    rw [atV, childV] at h
    rw [metV]
    by_cases h5 : k = 5
    · rw [if_neg (by omega), if_pos h5, metFind_find]
      rw [if_pos h5] at h
      cases hf : findD d p with
      | none => rw [hf] at h; cases h
      | some y => rw [hf] at h; exact ih y x h
    · rw [if_neg h5] at h
      by_cases h6 : k = 6
      · rw [if_pos h6] at h ⊢
        by_cases h0 : 0 ≤ placeN p
        · rw [if_pos h0] at h
          cases hf : l[(placeN p).toNat]? with
          | none => rw [hf] at h; cases h
          | some y =>
            rw [hf] at h
            have hl := (List.getElem?_eq_some_iff.1 hf).1
            rw [if_pos (by omega), metNth_get _ _ _ h0, hf]
            exact List.mem_append_right _ (ih y x h)
        · rw [if_neg h0] at h; cases h
      · rw [if_neg h6] at h; cases h
/-- One goes on through documents alone. -/
def goneV : V → List ByteArray → V
  | v, [] => v
  | v, p :: r => goneV ((getV v p).getD zeroV) r
/-- Has a list been met on the way? -/
def listMet : V → List ByteArray → Bool
  | _, [] => false
  | v, p :: r => kindV v == 6 || listMet ((getV v p).getD zeroV) r
theorem gone_zero : ∀ p : List ByteArray, goneV zeroV p = zeroV := by
  intro p
  induction p with
  | nil => rfl
  | cons p r ih => rw [goneV, show getV zeroV p = none by simp [zeroV, getV]]; exact ih
theorem met_gone : ∀ (p : List ByteArray) (v : V), listMet v p = false → metV v p = [goneV v p] := by
  intro p
  induction p with
  | nil => rintro ⟨k, n, s, l, d⟩ _; rw [metV, goneV]
  | cons p r ih =>
    rintro ⟨k, n, s, l, d⟩ h
    rw [listMet, Bool.or_eq_false_iff] at h
    obtain ⟨h6, h⟩ := h
    have h6' : k ≠ 6 := by simpa [kindV] using h6
    rw [metV, if_neg h6', goneV]
    rw [getV] at h ⊢
    by_cases h5 : k = 5
    · rw [if_pos h5] at h ⊢
      rw [if_pos h5, metFind_find]
      cases hf : findD d p with
      | none =>
        simp only [Option.getD_none]
        rw [gone_zero]
      | some y =>
        rw [hf] at h
        exact ih y h
    · rw [if_neg h5, if_neg h5]
      simp only [Option.getD_none]
      rw [gone_zero]

def missV : V → Bool
  | .mk k n s l d => k == 0 && (n == 0 && (s.toList == [] && (l.length == 0 && d.length == 0)))
mutual
/-- The one value to which parts lead. -/
def pickV : V → List ByteArray → V
  | .mk k n s l d, [] => .mk k n s l d
  | .mk k _ _ l d, p :: r => if k = 5 then pickFind d p r else if k = 6 then .mk 6 0 ⟨#[]⟩ (pickEach l (p :: r)) [] else zeroV
def pickEach : List V → List ByteArray → List V
  | [], _ => []
  | x :: t, ps => (if kindV x = 5 ∨ kindV x = 6 then (if missV (pickV x ps) then [] else [pickV x ps]) else []) ++ pickEach t ps
def pickFind : List (ByteArray × V) → ByteArray → List ByteArray → V
  | [], _, _ => zeroV
  | (f, x) :: t, p, r => if f.toList == p.toList then pickV x r else pickFind t p r
end
theorem pickFind_find (p : ByteArray) (r : List ByteArray) : ∀ (d : List (ByteArray × V)), pickFind d p r = match findD d p with | some x => pickV x r | none => zeroV := by
  intro d
  induction d with
  | nil => rw [pickFind, findD]
  | cons z t ih =>
    obtain ⟨f, x⟩ := z
    rw [pickFind, findD]
    split
    · rfl
    · exact ih
end Go.Proofs.YtkklnfihjikilaaDoor
