/- Words counted, in their order: no program here. No statement is proved here. -/
import Derived.Test.YtgcbcmhdlgklgaaWScoreP
import Derived.Sort.Walk0
namespace Go.Proofs.Ytgcbcmhdlgklgaa
open Go.RowKit Go.Lib
set_option maxRecDepth 100000

/-- A word before another one, by its bytes. -/
def ltW (a b : List Int) : Bool := Op.bytesLess (strOfNums a).toList (strOfNums b).toList
theorem ltW_iff (a b : List Int) : ltW a b = true ↔ (strOfNums a).toList < (strOfNums b).toList := by rw [ltW, bytesLess_eq, decide_eq_true_iff]
theorem ltW_irrefl (a : List Int) : ltW a a = false := Bool.eq_false_iff.2 fun h => List.lt_irrefl _ ((ltW_iff a a).1 h)
theorem ltW_trans {a b c : List Int} (h : ltW a b = true) (k : ltW b c = true) : ltW a c = true := (ltW_iff a c).2 (List.lt_trans ((ltW_iff a b).1 h) ((ltW_iff b c).1 k))
theorem ltW_total {a b : List Int} (ha : isB a) (hb : isB b) (h : ltW a b = false) (hne : a ≠ b) : ltW b a = true := by
  refine (ltW_iff b a).2 ?_
  have h1 : ¬ (strOfNums a).toList < (strOfNums b).toList := fun k => by rw [(ltW_iff a b).2 k] at h; cases h
  have h2 : (strOfNums b).toList ≠ (strOfNums a).toList := fun e => hne (by
    rw [toList_data, toList_data] at e
    rw [← bsI_str ha, ← bsI_str hb, show strOfNums a = strOfNums b from by apply ByteArray.ext; apply Array.ext'; exact e.symm])
  rcases List.le_iff_lt_or_eq.1 (List.not_lt.1 h1) with h3 | h3
  · exact h3
  · exact absurd h3 h2
abbrev Tm := List Int × Nat
def keysT (L : List Tm) : List (List Int) := L.map Prod.fst
def SortT (L : List Tm) : Prop := L.Pairwise fun p q => ltW p.1 q.1 = true
/-- One more of a word. -/
def bump : List Tm → List Int → List Tm
  | [], x => [(x, 1)]
  | (y, c) :: r, x => if y = x then (y, c + 1) :: r else if ltW y x = true then (y, c) :: bump r x else (x, 1) :: (y, c) :: r
theorem bump_skip (x : List Int) (B : List Tm) : ∀ A : List Tm, (∀ p ∈ A, ltW p.1 x = true) → bump (A ++ B) x = A ++ bump B x
  | [], _ => rfl
  | (y, c) :: r, h => by
    have h1 := h (y, c) (by simp)
    have hne : y ≠ x := fun e => by subst e; rw [ltW_irrefl] at h1; cases h1
    rw [List.cons_append, bump, if_neg hne, if_pos h1, bump_skip x B r fun p hp => h p (by simp [hp])]
    rfl
theorem bump_met (x : List Int) (c : Nat) (r : List Tm) : bump ((x, c) :: r) x = (x, c + 1) :: r := by rw [bump, if_pos rfl]
theorem bump_new (x : List Int) (B : List Tm) (h : ∀ p, B.head? = some p → p.1 ≠ x ∧ ltW p.1 x = false) : bump B x = (x, 1) :: B := by
  cases B with
  | nil => rfl
  | cons p r =>
    obtain ⟨y, c⟩ := p
    obtain ⟨h1, h2⟩ := h (y, c) rfl
    rw [bump, if_neg h1, if_neg (by rw [h2]; decide)]
theorem bump_keys (x : List Int) : ∀ L : List Tm, ∀ y, y ∈ keysT (bump L x) ↔ y = x ∨ y ∈ keysT L
  | [], y => by simp [bump, keysT]
  | (z, c) :: r, y => by
    have ih := bump_keys x r y
    rw [bump]
    split
    · rename_i e; subst e; simp [keysT]
    split
    · simp only [keysT, List.map_cons, List.mem_cons] at ih ⊢
      rw [ih]
      constructor
      · rintro (h | h | h) <;> simp [h]
      · rintro (h | h | h) <;> simp [h]
    · simp [keysT]
theorem bump_sorted (x : List Int) (hx : isB x) : ∀ L : List Tm, (∀ y ∈ keysT L, isB y) → SortT L → SortT (bump L x)
  | [], _, _ => by simp [bump, SortT]
  | (z, c) :: r, hb, hs => by
    obtain ⟨h1, h2⟩ := List.pairwise_cons.1 hs
    have ih := bump_sorted x hx r (fun y hy => hb y (by simp only [keysT, List.map_cons, List.mem_cons]; exact .inr hy)) h2
    rw [bump]
    split
    · exact List.pairwise_cons.2 ⟨h1, h2⟩
    split
    · rename_i hne hlt
      refine List.pairwise_cons.2 ⟨fun q hq => ?_, ih⟩
      rcases (bump_keys x r q.1).1 (List.mem_map.2 ⟨q, hq, rfl⟩) with e | e
      · rw [e]; exact hlt
      · obtain ⟨q', hq', e'⟩ := List.mem_map.1 e
        rw [← e']
        exact h1 q' hq'
    · rename_i hne hlt
      have hxz : ltW x z = true := ltW_total (hb z (by simp [keysT])) hx (Bool.eq_false_iff.2 hlt) hne
      refine List.pairwise_cons.2 ⟨fun q hq => ?_, hs⟩
      rcases List.mem_cons.1 hq with rfl | hq
      · exact hxz
      · exact ltW_trans hxz (h1 q hq)
theorem bump_count (x : List Int) (f : List Int → Nat) : ∀ L : List Tm, SortT L → (∀ p ∈ L, p.2 = f p.1) → (x ∉ keysT L → f x = 0) → ∀ p ∈ bump L x, p.2 = f p.1 + (if p.1 = x then 1 else 0)
  | [], _, _, hz, p, hp => by
    simp only [bump, List.mem_singleton] at hp
    subst hp
    simp [hz (by simp [keysT])]
  | (z, c) :: r, hs, hf, hz, p, hp => by
    obtain ⟨h1, h2⟩ := List.pairwise_cons.1 hs
    have hzc : c = f z := hf (z, c) (by simp)
    have far : ∀ q ∈ r, q.1 ≠ z := fun q hq e => by have := h1 q hq; rw [e, ltW_irrefl] at this; cases this
    rw [bump] at hp
    split at hp
    · rename_i e; subst e
      rcases List.mem_cons.1 hp with rfl | hp
      · simp [hzc]
      · rw [if_neg (far p hp), hf p (by simp [hp])]
        rfl
    split at hp
    · rename_i hne hlt
      rcases List.mem_cons.1 hp with rfl | hp
      · rw [if_neg hne, hzc]; rfl
      · exact bump_count x f r h2 (fun q hq => hf q (by simp [hq])) (fun hn => hz (by simp only [keysT, List.map_cons, List.mem_cons, not_or]; exact ⟨fun e => hne e.symm, hn⟩)) p hp
    · rename_i hne hlt
      have hnot : x ∉ keysT ((z, c) :: r) := fun hm => by
        rcases List.mem_cons.1 hm with e | e
        · exact hne e.symm
        · obtain ⟨q, hq, e'⟩ := List.mem_map.1 e
          have := h1 q hq
          rw [show q.1 = x from e'] at this
          exact hlt this
      rcases List.mem_cons.1 hp with rfl | hp
      · simp [hz hnot]
      · have : p.1 ≠ x := fun e => hnot (List.mem_map.2 ⟨p, hp, e⟩)
        rw [if_neg this, hf p hp]; rfl
theorem bump_len (x : List Int) : ∀ L : List Tm, SortT L → (bump L x).length = L.length + (if x ∈ keysT L then 0 else 1)
  | [], _ => by simp [bump, keysT]
  | (z, c) :: r, hs => by
    obtain ⟨h1, h2⟩ := List.pairwise_cons.1 hs
    have ih := bump_len x r h2
    rw [bump]
    split
    · rename_i e; subst e; simp [keysT]
    split
    · rename_i hne hlt
      have hk : (x ∈ keysT ((z, c) :: r)) ↔ x ∈ keysT r := by simp only [keysT, List.map_cons, List.mem_cons]; exact ⟨fun h => h.resolve_left fun e => hne e.symm, .inr⟩
      rw [List.length_cons, ih, List.length_cons]
      by_cases e : x ∈ keysT r
      · rw [if_pos e, if_pos (hk.2 e)]
      · rw [if_neg e, if_neg fun h => e (hk.1 h)]
    · rename_i hne hlt
      have hnot : x ∉ keysT ((z, c) :: r) := fun hm => by
        rcases List.mem_cons.1 hm with e | e
        · exact hne e.symm
        · obtain ⟨q, hq, e'⟩ := List.mem_map.1 e
          have := h1 q hq
          rw [show q.1 = x from e'] at this
          exact hlt this
      rw [if_neg hnot]; simp
/-- Words counted, as the document goes: with the next word, or none where there is no more room. -/
def addW (L : List Tm) (x : List Int) : Option (List Tm) := if x ∉ keysT L ∧ 200 ≤ L.length then none else some (bump L x)
def termsF : List (List Int) → List Tm → Option (List Tm)
  | [], L => some L
  | x :: r, L => (addW L x).bind (termsF r)
/-- What has been counted. -/
structure Counted (l : List (List Int)) (L : List Tm) : Prop where
  sorted : SortT L
  keys : ∀ y, y ∈ keysT L ↔ y ∈ l
  count : ∀ p ∈ L, p.2 = l.count p.1
  few : L.length ≤ 200
theorem Counted.nil : Counted [] [] := ⟨by simp [SortT], by simp [keysT], by simp, by simp⟩
theorem Counted.add {l : List (List Int)} {L : List Tm} (h : Counted l L) (hl : ∀ y ∈ l, isB y) {x : List Int} (hx : isB x) {L' : List Tm} (e : addW L x = some L') : Counted (l ++ [x]) L' := by
  unfold addW at e
  split at e
  · cases e
  rename_i hc
  injection e with e
  subst e
  refine ⟨bump_sorted x hx L (fun y hy => hl y ((h.keys y).1 hy)) h.sorted, fun y => ?_, fun p hp => ?_, ?_⟩
  · rw [bump_keys, h.keys]
    simp only [List.mem_append, List.mem_singleton]
    exact or_comm
  · rw [bump_count x (fun y => l.count y) L h.sorted h.count (fun hn => List.count_eq_zero.2 fun hm => hn ((h.keys x).2 hm)) p hp, List.count_append, List.count_singleton]
    by_cases e : p.1 = x
    · simp [e]
    · have e2 : ¬ x = p.1 := fun h => e h.symm
      simp [e, e2]
  · rw [bump_len x L h.sorted]
    have := h.few
    split
    · omega
    · rename_i hn
      have : ¬ 200 ≤ L.length := fun h => hc ⟨hn, h⟩
      omega
theorem Counted.full {l : List (List Int)} {L : List Tm} (h : Counted l L) {x : List Int} (e : addW L x = none) : x ∉ l ∧ L.length = 200 := by
  unfold addW at e
  split at e
  · rename_i hc
    exact ⟨fun hm => hc.1 ((h.keys x).2 hm), by have := h.few; omega⟩
  · cases e
/-- The same is counted in one way only. -/
theorem Counted.one {l m : List (List Int)} {L M : List Tm} (h : Counted l L) (k : Counted m M) (e : ∀ y, l.count y = m.count y) : L = M := by
  have hmem : ∀ y, y ∈ l ↔ y ∈ m := fun y => by rw [← List.count_pos_iff, ← List.count_pos_iff, e]
  have key : ∀ (L M : List Tm), SortT L → SortT M → (∀ p, p ∈ L ↔ p ∈ M) → L = M := by
    intro L
    induction L with
    | nil => intro M _ _ h; cases M with
      | nil => rfl
      | cons q r => exact absurd ((h q).2 (by simp)) (by simp)
    | cons p r ih =>
      intro M hs ht h
      cases M with
      | nil => exact absurd ((h p).1 (by simp)) (by simp)
      | cons q s =>
        obtain ⟨h1, h2⟩ := List.pairwise_cons.1 hs
        obtain ⟨t1, t2⟩ := List.pairwise_cons.1 ht
        have epq : p = q := by
          rcases List.mem_cons.1 ((h p).1 (by simp)) with e | e
          · exact e
          rcases List.mem_cons.1 ((h q).2 (by simp)) with e' | e'
          · exact e'.symm
          have := ltW_trans (t1 p e) (h1 q e')
          rw [ltW_irrefl] at this
          cases this
        subst epq
        rw [ih s h2 t2 fun z => ?_]
        constructor
        · intro hz
          rcases List.mem_cons.1 ((h z).1 (by simp [hz])) with e | e
          · subst e
            have := h1 z hz
            rw [ltW_irrefl] at this
            cases this
          · exact e
        · intro hz
          rcases List.mem_cons.1 ((h z).2 (by simp [hz])) with e | e
          · subst e
            have := t1 z hz
            rw [ltW_irrefl] at this
            cases this
          · exact e
  have mem : ∀ {l : List (List Int)} {L : List Tm}, Counted l L → ∀ p : Tm, p ∈ L ↔ p.2 = l.count p.1 ∧ p.1 ∈ l := fun {l L} h p => by
    constructor
    · intro hp
      exact ⟨h.count p hp, (h.keys p.1).1 (List.mem_map.2 ⟨p, hp, rfl⟩)⟩
    · rintro ⟨h1, h2⟩
      obtain ⟨q, hq, e⟩ := List.mem_map.1 ((h.keys p.1).2 h2)
      have h3 := h.count q hq
      rw [show p = q from Prod.ext e.symm (by rw [h1, h3, e])]
      exact hq
  refine key L M h.sorted k.sorted fun p => ?_
  rw [mem h, mem k, e, hmem]
end Go.Proofs.Ytgcbcmhdlgklgaa
