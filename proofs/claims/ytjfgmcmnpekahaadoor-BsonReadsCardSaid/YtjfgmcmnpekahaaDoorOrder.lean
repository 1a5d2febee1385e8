/- Compare is an order, and of values that may be it is 0 just if they are the same: plain words, no statement is proved here. -/
import Derived.Test.YtjfgmcmnpekahaaDoorSame
namespace Go.Proofs.YtjfgmcmnpekahaaDoor
open Go.RowKit
set_option maxRecDepth 100000

/-- Row by row: the first two that are unlike decide, else the shorter one stands ahead. -/
def lex {α : Type} (f : α → α → Int) : List α → List α → Int
  | [], [] => 0
  | [], _ :: _ => -1
  | _ :: _, [] => 1
  | x :: r, y :: r' => if f x y = 0 then lex f r r' else f x y
/-- From one to the next to the next. -/
def T3 (a b c : Int) : Prop := (a ≤ 0 → b ≤ 0 → c ≤ 0 ∧ (c = 0 → a = 0 ∧ b = 0)) ∧ (a = 0 → b = 0 → c = 0)

section
variable {α : Type} {f : α → α → Int}
theorem lex_range (l : List α) (h : ∀ x ∈ l, ∀ y, -1 ≤ f x y ∧ f x y ≤ 1) : ∀ l' : List α, -1 ≤ lex f l l' ∧ lex f l l' ≤ 1 := by
  induction l with
  | nil => intro l'; cases l' <;> simp [lex]
  | cons x r ih =>
    intro l'
    cases l' with
    | nil => simp [lex]
    | cons y r' =>
      rw [lex]
      split
      · exact ih (fun z hz => h z (by simp [hz])) r'
      · exact h x (by simp) y
theorem lex_anti (l : List α) (h : ∀ x ∈ l, ∀ y, f x y = - f y x) : ∀ l' : List α, lex f l l' = - lex f l' l := by
  induction l with
  | nil => intro l'; cases l' <;> simp [lex]
  | cons x r ih =>
    intro l'
    cases l' with
    | nil => simp [lex]
    | cons y r' =>
      have h1 := h x (by simp) y
      have h2 := ih (fun z hz => h z (by simp [hz])) r'
      rw [lex, lex]
      split
      · rw [if_pos (by omega)]; exact h2
      · rw [if_neg (by omega)]; exact h1
theorem lex_self (l : List α) (h : ∀ x ∈ l, f x x = 0) : lex f l l = 0 := by
  induction l with
  | nil => rfl
  | cons x r ih => rw [lex, if_pos (h x (by simp))]; exact ih (fun z hz => h z (by simp [hz]))
theorem lex_trans (l : List α) (h : ∀ x ∈ l, ∀ y z, T3 (f x y) (f y z) (f x z)) : ∀ l' l'' : List α, T3 (lex f l l') (lex f l' l'') (lex f l l'') := by
  induction l with
  | nil =>
    intro l' l''
    cases l' with
    | nil => cases l'' <;> simp [lex, T3]
    | cons y r' =>
      cases l'' with
      | nil => simp [lex, T3]
      | cons z r'' => simp [lex, T3]
  | cons x r ih =>
    intro l' l''
    cases l' with
    | nil => simp [lex, T3]
    | cons y r' =>
      cases l'' with
      | nil => simp [lex, T3]
      | cons z r'' =>
        have h1 := h x (by simp) y z
        have h2 := ih (fun z hz => h z (by simp [hz])) r' r''
        simp only [lex]
        unfold T3 at *
        obtain ⟨h1, h1'⟩ := h1
        obtain ⟨h2, h2'⟩ := h2
        by_cases c1 : f x y = 0
        · by_cases c2 : f y z = 0
          · have c3 := h1' c1 c2
            rw [if_pos c1, if_pos c2, if_pos c3]
            exact ⟨h2, h2'⟩
          · by_cases c3 : f x z = 0
            · rw [if_pos c1, if_neg c2, if_pos c3]
              refine ⟨fun _ b => ?_, fun _ b => absurd b c2⟩
              have := (h1 (by omega) b).2 c3
              omega
            · rw [if_pos c1, if_neg c2, if_neg c3]
              refine ⟨fun _ b => ?_, fun _ b => absurd b c2⟩
              have := h1 (by omega) b
              exact ⟨this.1, fun e => absurd e c3⟩
        · by_cases c3 : f x z = 0
          · rw [if_neg c1, if_pos c3]
            refine ⟨fun a b => ?_, fun a _ => absurd a c1⟩
            by_cases c2 : f y z = 0
            · rw [if_pos c2] at b
              have := (h1 a (by omega)).2 c3
              omega
            · rw [if_neg c2] at b
              have := (h1 a b).2 c3
              omega
          · rw [if_neg c1, if_neg c3]
            refine ⟨fun a b => ?_, fun a _ => absurd a c1⟩
            by_cases c2 : f y z = 0
            · have := h1 a (by omega)
              exact ⟨this.1, fun e => absurd e c3⟩
            · rw [if_neg c2] at b
              have := h1 a b
              exact ⟨this.1, fun e => absurd e c3⟩
theorem lex_eq (l : List α) : ∀ l' : List α, (∀ x ∈ l, ∀ y ∈ l', f x y = 0 → x = y) → lex f l l' = 0 → l = l' := by
  induction l with
  | nil => intro l' _ h; cases l' with
    | nil => rfl
    | cons y r => simp [lex] at h
  | cons x r ih =>
    intro l' h he
    cases l' with
    | nil => simp [lex] at he
    | cons y r' =>
      rw [lex] at he
      split at he
      · rename_i h0
        rw [h x (by simp) y (by simp) h0, ih r' (fun a ha b hb => h a (by simp [ha]) b (by simp [hb])) he]
      · rename_i h0; exact absurd he h0
end

theorem cmpI_range (a b : Int) : -1 ≤ cmpI a b ∧ cmpI a b ≤ 1 := by unfold cmpI; split <;> (try split) <;> omega
theorem cmpI_anti (a b : Int) : cmpI a b = - cmpI b a := by unfold cmpI; repeat' split <;> omega
theorem cmpI_self (a : Int) : cmpI a a = 0 := by unfold cmpI; rw [if_neg (by omega), if_neg (by omega)]
theorem cmpI_trans (a b c : Int) : T3 (cmpI a b) (cmpI b c) (cmpI a c) := by unfold T3 cmpI; repeat' split <;> omega
theorem cmpI_eq {a b : Int} (h : cmpI a b = 0) : a = b := by unfold cmpI at h; repeat' split at h <;> omega

def cmpU (a b : UInt8) : Int := cmpI a.toNat b.toNat
theorem cmpS_lex (s s' : ByteArray) : cmpS s s' = lex cmpU s.toList s'.toList := by
  unfold cmpS ltS
  generalize s.toList = l
  generalize s'.toList = l'
  induction l generalizing l' with
  | nil => cases l' <;> simp [Op.bytesLess, lex]
  | cons x r ih =>
    cases l' with
    | nil => simp [Op.bytesLess, lex]
    | cons y r' =>
      have h1 : (x < y) = (x.toNat < y.toNat) := by rw [UInt8.lt_iff_toNat_lt]
      have h2 : (x = y) = (x.toNat = y.toNat) := by rw [UInt8.toNat_inj]
      have ih' := ih r'
      rw [lex, ← ih']
      simp only [Op.bytesLess, cmpU, cmpI]
      by_cases c1 : x.toNat < y.toNat
      · simp [h1, c1]
      · by_cases c2 : x.toNat = y.toNat
        · have c3 : x = y := by rw [h2]; exact c2
          subst c3
          simp
        · have c3 : ¬ x = y := by rw [h2]; exact c2
          have c4 : y.toNat < x.toNat := by omega
          simp [h1, c1, c3, c4]
theorem cmpS_range (a b : ByteArray) : -1 ≤ cmpS a b ∧ cmpS a b ≤ 1 := by rw [cmpS_lex]; exact lex_range _ (fun x _ y => cmpI_range _ _) _
theorem cmpS_anti (a b : ByteArray) : cmpS a b = - cmpS b a := by rw [cmpS_lex, cmpS_lex]; exact lex_anti _ (fun x _ y => cmpI_anti _ _) _
theorem cmpS_self (a : ByteArray) : cmpS a a = 0 := by rw [cmpS_lex]; exact lex_self _ (fun x _ => cmpI_self _)
theorem cmpS_trans (a b c : ByteArray) : T3 (cmpS a b) (cmpS b c) (cmpS a c) := by rw [cmpS_lex, cmpS_lex, cmpS_lex]; exact lex_trans (f := cmpU) _ (fun x _ y z => cmpI_trans x.toNat y.toNat z.toNat) _ _
theorem cmpS_eq {a b : ByteArray} (h : cmpS a b = 0) : a = b := by
  rw [cmpS_lex] at h
  refine bytes_eq (lex_eq _ _ (fun x _ y _ h => ?_) h)
  have := cmpI_eq h
  exact UInt8.toNat_inj.1 (by omega)

theorem cmpL_lex (l : List V) : ∀ l', cmpL l l' = lex cmpV l l' := by
  induction l with
  | nil => intro l'; cases l' <;> simp [cmpL, lex]
  | cons x r ih => intro l'; cases l' with
    | nil => simp [cmpL, lex]
    | cons y r' => rw [cmpL, lex, ih]
def cmpP (x y : ByteArray × V) : Int := cmpF x.1 x.2 y.1 y.2
theorem cmpD_lex (l : List (ByteArray × V)) : ∀ l', cmpD l l' = lex cmpP l l' := by
  induction l with
  | nil => intro l'; cases l' <;> simp [cmpD, lex]
  | cons x r ih => intro l'; cases l' with
    | nil => simp [cmpD, lex]
    | cons y r' => rw [cmpD, lex, ih]; rfl
theorem cmpP_two (x y : ByteArray × V) : cmpP x y = if cmpS x.1 y.1 = 0 then cmpV x.2 y.2 else cmpS x.1 y.1 := by
  unfold cmpP
  rw [cmpF]
  by_cases h : x.1.toList = y.1.toList
  · rw [if_pos (by simpa using h), if_pos (by rw [bytes_eq h]; exact cmpS_self _)]
  · rw [if_neg (by simpa using h), if_neg (fun e => h (by rw [cmpS_eq e]))]

theorem cmpV_self (a : V) : cmpV a a = 0 := by
  induction a using V.ind with
  | h k n s l d ihl ihd =>
  rw [cmpV, if_neg (by simp)]
  split
  · exact cmpI_self _
  split
  · exact cmpS_self _
  split
  · rw [cmpL_lex]; exact lex_self _ ihl
  split
  · rw [cmpD_lex]; exact lex_self _ (fun x hx => by rw [cmpP_two, if_pos (cmpS_self _)]; exact ihd x hx)
  · rfl
theorem cmpV_range (a : V) : ∀ b, -1 ≤ cmpV a b ∧ cmpV a b ≤ 1 := by
  induction a using V.ind with
  | h k n s l d ihl ihd =>
  intro b
  obtain ⟨k', n', s', l', d'⟩ := b
  rw [cmpV]
  split
  · exact cmpI_range _ _
  split
  · exact cmpI_range _ _
  split
  · exact cmpS_range _ _
  split
  · rw [cmpL_lex]; exact lex_range _ ihl _
  split
  · rw [cmpD_lex]
    refine lex_range _ (fun x hx y => ?_) _
    rw [cmpP_two]
    split
    · exact ihd x hx _
    · exact cmpS_range _ _
  · omega
theorem cmpV_anti (a : V) : ∀ b, cmpV a b = - cmpV b a := by
  induction a using V.ind with
  | h k n s l d ihl ihd =>
  intro b
  obtain ⟨k', n', s', l', d'⟩ := b
  rw [cmpV, cmpV]
  by_cases hk : k = k'
  · subst hk
    simp only [ne_eq, not_true_eq_false, if_false]
    by_cases i1 : k = 3 ∨ k = 9 ∨ k = 10
    · simp only [if_pos i1]; exact cmpI_anti _ _
    by_cases i2 : k = 4 ∨ k = 7 ∨ k = 8
    · simp only [if_neg i1, if_pos i2]; exact cmpS_anti _ _
    by_cases i3 : k = 6
    · simp only [if_neg i1, if_neg i2, if_pos i3]; rw [cmpL_lex, cmpL_lex]; exact lex_anti _ ihl _
    by_cases i4 : k = 5
    · simp only [if_neg i1, if_neg i2, if_neg i3, if_pos i4]; rw [cmpD_lex, cmpD_lex]
      refine lex_anti _ (fun x hx y => ?_) _
      rw [cmpP_two, cmpP_two]
      have h1 := cmpS_anti x.1 y.1
      split
      · rw [if_pos (by omega)]; exact ihd x hx _
      · rw [if_neg (by omega)]; exact h1
    · simp only [if_neg i1, if_neg i2, if_neg i3, if_neg i4]; rfl
  · rw [if_pos hk, if_pos (fun e => hk e.symm)]
    exact cmpI_anti _ _
theorem t3_two {a b c a' b' c' : Int} (h : T3 a b c) (h' : T3 a' b' c') : T3 (if a = 0 then a' else a) (if b = 0 then b' else b) (if c = 0 then c' else c) := by
  unfold T3 at *
  repeat' split <;> omega
theorem cmpV_trans (a : V) : ∀ b c, T3 (cmpV a b) (cmpV b c) (cmpV a c) := by
  induction a using V.ind with
  | h k n s l d ihl ihd =>
  intro b c
  obtain ⟨k', n', s', l', d'⟩ := b
  obtain ⟨k'', n'', s'', l'', d''⟩ := c
  rw [cmpV, cmpV, cmpV]
  by_cases h1 : k = k'
  · subst h1
    by_cases h2 : k = k''
    · subst h2
      simp only [ne_eq, not_true_eq_false, if_false]
      by_cases i1 : k = 3 ∨ k = 9 ∨ k = 10
      · simp only [if_pos i1]; exact cmpI_trans _ _ _
      by_cases i2 : k = 4 ∨ k = 7 ∨ k = 8
      · simp only [if_neg i1, if_pos i2]; exact cmpS_trans _ _ _
      by_cases i3 : k = 6
      · simp only [if_neg i1, if_neg i2, if_pos i3]; rw [cmpL_lex, cmpL_lex, cmpL_lex]; exact lex_trans _ ihl _ _
      by_cases i4 : k = 5
      · simp only [if_neg i1, if_neg i2, if_neg i3, if_pos i4]; rw [cmpD_lex, cmpD_lex, cmpD_lex]
        refine lex_trans _ (fun x hx y z => ?_) _ _
        rw [cmpP_two, cmpP_two, cmpP_two]
        exact t3_two (cmpS_trans _ _ _) (ihd x hx _ _)
      · simp only [if_neg i1, if_neg i2, if_neg i3, if_neg i4]; simp [T3]
    · rw [if_neg (by simp), if_pos h2, if_pos h2]
      have := cmpI_range k k''
      generalize hc : cmpI k k'' = c at *
      have hne : c ≠ 0 := by rintro rfl; exact h2 (cmpI_eq hc)
      unfold T3
      omega
  · by_cases h2 : k' = k''
    · subst h2
      rw [if_pos h1, if_neg (by simp), if_pos h1]
      generalize hc : cmpI k k' = c at *
      have hne : c ≠ 0 := by rintro rfl; exact h1 (cmpI_eq hc)
      unfold T3
      omega
    · by_cases h3 : k = k''
      · subst h3
        rw [if_pos h1, if_pos h2, if_neg (by simp)]
        have hc := cmpI_anti k k'
        have hne : cmpI k k' ≠ 0 := fun e => h1 (cmpI_eq e)
        unfold T3
        omega
      · rw [if_pos h1, if_pos h2, if_pos h3]
        exact cmpI_trans _ _ _

theorem rightL_all {deep : Int} (l : List V) (h : rightL deep l = 0) : ∀ x ∈ l, rightV deep x = 0 := by
  induction l with
  | nil => simp
  | cons x r ih =>
    rw [rightL] at h
    split at h
    · rename_i h0
      intro y hy
      rcases List.mem_cons.1 hy with rfl | hy
      · exact h0
      · exact ih h y hy
    · rename_i h0; exact absurd h h0
theorem rightD_all {deep : Int} (l : List (ByteArray × V)) : ∀ ah, rightD deep ah l = 0 → ∀ x ∈ l, rightV deep x.2 = 0 := by
  induction l with
  | nil => simp
  | cons x r ih =>
    intro ah h
    obtain ⟨s, x⟩ := x
    rw [rightD] at h
    split at h
    · cases h
    split at h
    · rename_i h0
      intro y hy
      rcases List.mem_cons.1 hy with rfl | hy
      · exact h0
      · exact ih _ h y hy
    · rename_i h0; exact absurd h h0
theorem rightV_alone {deep : Int} {k n : Int} {s : ByteArray} {l : List V} {d : List (ByteArray × V)} (h : rightV deep (.mk k n s l d) = 0) :
    aloneV (.mk k n s l d) = true ∧ fitsV (.mk k n s l d) = true ∧ (k = 6 → rightL (deep + 1) l = 0) ∧ (k = 5 → rightD (deep + 1) [] d = 0) := by
  rw [rightV] at h
  split at h
  · cases h
  split at h
  · rename_i h1
    simp only [Bool.and_eq_true] at h1
    refine ⟨h1.1, h1.2, fun h6 => ?_, fun h5 => ?_⟩
    · rwa [if_pos h6] at h
    · rwa [if_neg (by omega), if_pos h5] at h
  · cases h
theorem cmpV_eq (a : V) : ∀ (b : V) (deep deep' : Int), rightV deep a = 0 → rightV deep' b = 0 → cmpV a b = 0 → a = b := by
  induction a using V.ind with
  | h k n s l d ihl ihd =>
  intro b deep deep' ha hb hc
  obtain ⟨k', n', s', l', d'⟩ := b
  obtain ⟨a1, a2, a3, a4⟩ := rightV_alone ha
  obtain ⟨b1, b2, b3, b4⟩ := rightV_alone hb
  rw [cmpV] at hc
  have hk : k = k' := by
    by_cases hk : k = k'
    · exact hk
    · rw [if_pos hk] at hc
      exact absurd (cmpI_eq hc) hk
  subst hk
  rw [if_neg (by simp)] at hc
  have hsz : ∀ s : ByteArray, s.toList = [] → s = ⟨#[]⟩ := fun s h => bytes_eq (by rw [h, Lib.toList_data])
  simp only [aloneV, Bool.and_eq_true, Bool.or_eq_true, decide_eq_true_eq, beq_iff_eq, List.length_eq_zero_iff] at a1 b1
  obtain ⟨p1, p2, p3, p4⟩ := a1
  obtain ⟨q1, q2, q3, q4⟩ := b1
  by_cases i1 : k = 3 ∨ k = 9 ∨ k = 10
  · rw [if_pos i1] at hc
    rw [cmpI_eq hc, hsz s (p2.resolve_left (by omega)), hsz s' (q2.resolve_left (by omega)), p3.resolve_left (by omega), q3.resolve_left (by omega), p4.resolve_left (by omega), q4.resolve_left (by omega)]
  rw [if_neg i1] at hc
  have hn : n = n' := by rw [p1.resolve_left i1, q1.resolve_left i1]
  by_cases i2 : k = 4 ∨ k = 7 ∨ k = 8
  · rw [if_pos i2] at hc
    rw [hn, cmpS_eq hc, p3.resolve_left (by omega), q3.resolve_left (by omega), p4.resolve_left (by omega), q4.resolve_left (by omega)]
  rw [if_neg i2] at hc
  have hs : s = s' := by rw [hsz s (p2.resolve_left i2), hsz s' (q2.resolve_left i2)]
  by_cases i3 : k = 6
  · rw [if_pos i3, cmpL_lex] at hc
    have hl := lex_eq _ _ (fun x hx y hy h => ihl x hx y _ _ (rightL_all _ (a3 i3) x hx) (rightL_all _ (b3 i3) y hy) h) hc
    rw [hn, hs, hl, p4.resolve_left (by omega), q4.resolve_left (by omega)]
  rw [if_neg i3] at hc
  have hl : l = l' := by rw [p3.resolve_left i3, q3.resolve_left i3]
  by_cases i4 : k = 5
  · rw [if_pos i4, cmpD_lex] at hc
    have hd := lex_eq _ _ (fun x hx y hy h => by
      rw [cmpP_two] at h
      split at h
      · rename_i h0
        have e1 := cmpS_eq h0
        have e2 := ihd x hx y.2 _ _ (rightD_all _ _ (a4 i4) x hx) (rightD_all _ _ (b4 i4) y hy) h
        exact Prod.ext e1 e2
      · rename_i h0; exact absurd h h0) hc
    rw [hn, hs, hl, hd]
  rw [hn, hs, hl, p4.resolve_left i4, q4.resolve_left i4]
/-- P1.7: of values that are right Compare is 0 just if they are the same. -/
theorem cmpV_same (a b : V) (ha : rightOf a = 0) (hb : rightOf b = 0) : sameV a b = (cmpV a b == 0) := by
  rw [Bool.eq_iff_iff, sameV_iff, beq_iff_eq]
  have h1 : rightV 1 a = 0 := by unfold rightOf at ha; split at ha; cases ha; exact ha
  have h2 : rightV 1 b = 0 := by unfold rightOf at hb; split at hb; cases hb; exact hb
  exact ⟨fun h => by rw [h]; exact cmpV_self b, cmpV_eq a b 1 1 h1 h2⟩
end Go.Proofs.YtjfgmcmnpekahaaDoor
