/- The mathematics of Split: where a text's dots stand; the document's own way through it. No statement is proved here. -/
import Derived.Test.YtkklnfihjikilaaDoorPathSpl
import Derived.Lib.Split
import Derived.Lib.CutLaws
import Derived.Lib.IndexBytes
namespace Go.Proofs.YtkklnfihjikilaaDoor
open Go.RowKit
set_option maxRecDepth 100000

theorem ba_eq {s s' : ByteArray} (h : s.data.toList = s'.data.toList) : s = s' := by
  obtain ⟨s⟩ := s
  obtain ⟨s'⟩ := s'
  simp at h
  rw [h]
theorem occ_one (l : List UInt8) (j : Nat) : Lib.occAt l [46] j = (l[j]? == some 46) := by
  unfold Lib.occAt
  induction l generalizing j with
  | nil => cases j <;> rfl
  | cons x r ih =>
    cases j with
    | zero => simp [List.isPrefixOf, Bool.beq_comm]
    | succ j => simpa using ih j
/-- No dot from a up to i. -/
def NoDot (p : ByteArray) (a i : Nat) : Prop := ∀ j, a ≤ j → j < i → p.data.toList[j]? ≠ some 46
theorem nodot_rest {p : ByteArray} {a i : Nat} (h : NoDot p a i) (hi : i ≤ p.size) : Lib.NoOcc (p.extract a p.size).data.toList dotB.data.toList (i - a) := by
  intro j hj
  rw [show dotB.data.toList = [46] from rfl, occ_one, Lib.extract_data, List.getElem?_take_of_lt (by omega), List.getElem?_drop]
  have := h (a + j) (by omega) (by omega)
  simpa using this
theorem dot_hit {p : ByteArray} {a i : Nat} (h : NoDot p a i) (ha : a ≤ i) (hi : i < p.size) (hd : p.data.toList[i]? = some 46) : Lib.indexB (p.extract a p.size) dotB = ((i - a : Nat) : Int) := by
  have hl : (p.extract a p.size).data.toList.length = p.size - a := by
    rw [Lib.extract_data, List.length_take, List.length_drop]
    have : p.data.toList.length = p.size := rfl
    omega
  refine Lib.index_hit (nodot_rest h (by omega)) (by omega) ?_
  rw [show dotB.data.toList = [46] from rfl, occ_one, Lib.extract_data, List.getElem?_take_of_lt (by omega), List.getElem?_drop, show a + (i - a) = i by omega, hd]
  rfl
theorem dot_miss {p : ByteArray} {a : Nat} (h : NoDot p a p.size) (ha : a ≤ p.size) : Lib.indexB (p.extract a p.size) dotB = -1 := by
  refine Lib.index_past (by decide) (nodot_rest h (Nat.le_refl _)) ?_
  rw [Lib.extract_data, List.length_take, List.length_drop]
  have : p.data.toList.length = p.size := rfl
  have h1 : dotB.data.toList.length = 1 := rfl
  omega
theorem split_hit {p : ByteArray} {a i : Nat} (k : Nat) (h : NoDot p a i) (ha : a ≤ i) (hi : i < p.size) (hd : p.data.toList[i]? = some 46) : Lib.splitB dotB 0 (k + 1) (p.extract a p.size) = p.extract a i :: Lib.splitB dotB 0 k (p.extract (i + 1) p.size) := by
  rw [Lib.splitB_hit _ _ _ _ _ (dot_hit h ha hi hd)]
  have hp : p.data.toList.length = p.size := rfl
  have hs : (p.extract a p.size).size = p.size - a := by
    have : (p.extract a p.size).data.toList.length = p.size - a := by rw [Lib.extract_data, List.length_take, List.length_drop]; omega
    exact this
  congr 1
  · refine ba_eq ?_
    rw [Lib.extract_data, Lib.extract_data, Lib.extract_data, List.drop_zero, List.take_take]
    congr 1
    omega
  · congr 1
    refine ba_eq ?_
    rw [Lib.extract_data, Lib.extract_data, Lib.extract_data, hs, show dotB.size = 1 from rfl, List.drop_take, List.drop_drop, List.take_take]
    rw [show a + (i - a + 1) = i + 1 by omega]
    congr 1
    omega
theorem split_miss {p : ByteArray} {a : Nat} (k : Nat) (h : NoDot p a p.size) (ha : a ≤ p.size) : Lib.splitB dotB 0 k (p.extract a p.size) = [p.extract a p.size] := Lib.splitB_miss _ _ _ _ (dot_miss h ha)
theorem split_enough : ∀ (k k' : Nat) (s : ByteArray), s.size ≤ k → s.size ≤ k' → Lib.splitB dotB 0 k s = Lib.splitB dotB 0 k' s := by
  intro k
  induction k with
  | zero =>
    intro k' s h _
    have hm : Lib.indexB s dotB = -1 := by
      rcases Lib.indexB_cases s dotB with h1 | ⟨i, _, h2⟩
      · exact h1
      · have : dotB.size = 1 := rfl
        omega
    rw [Lib.splitB_miss _ _ _ _ hm, Lib.splitB_miss _ _ _ _ hm]
  | succ k ih =>
    intro k' s h h'
    rcases Lib.indexB_cases s dotB with h1 | ⟨i, h1, h2⟩
    · rw [Lib.splitB_miss _ _ _ _ h1, Lib.splitB_miss _ _ _ _ h1]
    · have hd : dotB.size = 1 := rfl
      obtain ⟨k'', rfl⟩ : ∃ k'', k' = k'' + 1 := ⟨k' - 1, by omega⟩
      rw [Lib.splitB_hit _ _ _ _ _ h1, Lib.splitB_hit _ _ _ _ _ h1]
      have hs : (s.extract (i + dotB.size) s.size).size = s.size - (i + dotB.size) := by simp
      rw [ih k'' _ (by omega) (by omega)]
theorem splitP_ten (p : ByteArray) : splitP p = Lib.splitB dotB 0 10 p := by
  unfold splitP
  by_cases h : p.size < 10
  · exact split_enough _ _ _ (by omega) (by omega)
  · rw [show min 11 (p.size + 1) - 1 = 10 by omega]
theorem whole (p : ByteArray) : p.extract 0 p.size = p := by
  refine ba_eq ?_
  rw [Lib.extract_data, List.drop_zero]
  exact List.take_of_length_le (by show p.size ≤ _; omega)
/-- A part may be, just if its name may be and it does not begin with a dollar sign. -/
theorem part_name (s : ByteArray) : partOk s = (!(Lib.hasPrefix s.data.toList [36]) && nameOk s) := by
  unfold partOk
  congr 1
  unfold rightOf sizeV oneV
  have h3 : rightV 2 nullV = 0 := by
    have h1 : aloneV nullV = true := by rw [nullV, aloneV, Lib.toList_data]; rfl
    have h2 : fitsV nullV = true := by rw [nullV, fitsV]; rfl
    rw [nullV] at h1 h2 ⊢
    rw [rightV, h1, h2]
    rfl
  have hn : rightV 1 (V.mk 5 0 ⟨#[]⟩ [] [(s, nullV)]) = if nameOk s then 0 else 11 := by
    have h1 : aloneV (V.mk 5 0 ⟨#[]⟩ [] [(s, nullV)]) = true := by rw [aloneV, Lib.toList_data]; rfl
    have h2 : fitsV (V.mk 5 0 ⟨#[]⟩ [] [(s, nullV)]) = true := by rw [fitsV]; rfl
    rw [rightV, h1, h2, rightD, show (1 : Int) + 1 = 2 from rfl, h3]
    cases nameOk s <;> simp [rightD]
  have hs : szFrom 0 (V.mk 5 0 ⟨#[]⟩ [] [(s, nullV)]) = 7 + s.size := by
    have h4 : ∀ n : Int, szFrom n nullV = n := fun n => by rw [nullV, szFrom]; simp
    rw [szFrom, if_neg (by decide), if_neg (by decide), if_neg (by decide), if_neg (by decide), if_pos rfl, szD, if_neg (by decide), h4]
    rw [szD]
    omega
  rw [hn, hs]
  cases hk : nameOk s with
  | true =>
    have hle : s.size ≤ 100 := by
      unfold nameOk at hk
      simp only [Bool.and_eq_true, decide_eq_true_eq] at hk
      exact hk.2.1
    have h5 : ¬ (65537 : Int) < 7 + s.size := by omega
    have h6 : ¬ (65536 : Int) < 7 + s.size := by omega
    rw [if_neg h5, if_neg h6]
    rfl
  | false =>
    by_cases h6 : (65536 : Int) < (if (65537 : Int) < 7 + (s.size : Int) then 65537 else 7 + (s.size : Int))
    · rw [if_pos h6]; rfl
    · rw [if_neg h6]; rfl
theorem name_some {s : ByteArray} (h : nameOk s = true) : 0 < s.size := by
  unfold nameOk at h
  simp only [Bool.and_eq_true, Bool.not_eq_true', beq_eq_false_iff_ne, ne_eq] at h
  have h1 := h.1
  rcases Nat.eq_zero_or_pos s.size with h0 | h0
  · exfalso
    refine h1 ?_
    rw [Lib.toList_data]
    exact List.eq_nil_of_length_eq_zero h0
  · exact h0
theorem dollar {s : ByteArray} (h : 0 < s.size) : Lib.hasPrefix s.data.toList [36] = (((s[0].toNat : Nat) : Int) == 36) := by
  have h0 := Lib.data_getElem? s 0 h
  unfold Lib.hasPrefix
  cases hl : s.data.toList with
  | nil => rw [hl] at h0; cases h0
  | cons x r =>
    rw [hl] at h0
    simp at h0
    rw [← h0]
    rw [List.isPrefixOf]
    simp
    rw [Bool.eq_iff_iff]
    simp
    constructor
    · intro e; rw [← e]; rfl
    · intro e
      refine UInt8.toNat_inj.1 ?_
      rw [show (36 : UInt8).toNat = 36 from rfl]
      omega
/-- At a round's head of the document's own way: what has been taken, where the next part begins, how far it has been looked at. -/
def SplRel (p : ByteArray) (out : List ByteArray) (a i : Nat) : Prop :=
  out.length ≤ 10 ∧ (∀ x ∈ out, partOk x = true) ∧ ((i ≤ p.size ∧ a ≤ i ∧ NoDot p a i ∧ splitP p = out ++ Lib.splitB dotB 0 (10 - out.length) (p.extract a p.size)) ∨ (i = p.size + 1 ∧ splitP p = out))
theorem spl_start (p : ByteArray) : SplRel p [] 0 0 := ⟨by simp, by simp, .inl ⟨by omega, by omega, fun j h1 h2 => by omega, by rw [whole, splitP_ten]; rfl⟩⟩
theorem spl_on {p : ByteArray} {out : List ByteArray} {a i : Nat} (h : SplRel p out a i) (hi : i < p.size) (hd : p.data.toList[i]? ≠ some 46) : SplRel p out a (i + 1) := by
  obtain ⟨h1, h2, ⟨h3, h4, h5, h6⟩ | ⟨h3, h4⟩⟩ := h
  · refine ⟨h1, h2, .inl ⟨by omega, by omega, fun j hj hk => ?_, h6⟩⟩
    by_cases e : j = i
    · rw [e]; exact hd
    · exact h5 j hj (by omega)
  · omega
/-- A part's end: the part is taken, or the whole is none. -/
theorem spl_end {p : ByteArray} {out : List ByteArray} {a i : Nat} (h : SplRel p out a i) (hi : i < p.size ∧ p.data.toList[i]? = some 46 ∨ i = p.size) :
    (partOk (p.extract a i) = true → out.length < 10 → SplRel p (out ++ [p.extract a i]) (i + 1) (i + 1)) ∧ (partOk (p.extract a i) = false ∨ 10 ≤ out.length → splitOk p = false) := by
  obtain ⟨h1, h2, ⟨h3, h4, h5, h6⟩ | ⟨h3, h4⟩⟩ := h
  · refine ⟨fun hp hl => ⟨by simp; omega, ?_, ?_⟩, fun hb => ?_⟩
    · intro x hx
      rcases List.mem_append.1 hx with hx | hx
      · exact h2 x hx
      · rw [List.mem_singleton.1 hx]; exact hp
    · obtain ⟨m, hm⟩ : ∃ m, 10 - out.length = m + 1 := ⟨9 - out.length, by omega⟩
      have hm2 : 10 - (out ++ [p.extract a i]).length = m := by simp; omega
      rcases hi with ⟨hlt, hd⟩ | rfl
      · refine .inl ⟨by omega, by omega, fun j h1 h2 => by omega, ?_⟩
        rw [h6, hm, split_hit m h5 h4 hlt hd, hm2]
        simp
      · refine .inr ⟨rfl, ?_⟩
        rw [h6, split_miss _ h5 h4]
    · unfold splitOk
      rw [h6]
      rw [Bool.and_eq_false_iff]
      by_cases hl : 10 ≤ out.length
      · left
        have : out.length = 10 := by omega
        rw [show 10 - out.length = 0 by omega, Lib.splitB_zero]
        simp; omega
      · right
        have hp : partOk (p.extract a i) = false := by
          rcases hb with hb | hb
          · exact hb
          · exact absurd hb hl
        rw [List.all_append, Bool.and_eq_false_iff]
        right
        obtain ⟨m, hm⟩ : ∃ m, 10 - out.length = m + 1 := ⟨9 - out.length, by omega⟩
        rcases hi with ⟨hlt, hd⟩ | rfl
        · rw [hm, split_hit m h5 h4 hlt hd, List.all_cons, hp]
          rfl
        · rw [split_miss _ h5 h4, List.all_cons, hp]
          rfl
  · rcases hi with ⟨hlt, _⟩ | hi <;> omega
theorem spl_done {p : ByteArray} {out : List ByteArray} {a i : Nat} (h : SplRel p out a i) (hi : ¬ i ≤ p.size) : splitOk p = true ∧ splitP p = out := by
  obtain ⟨h1, h2, ⟨h3, _⟩ | ⟨_, h4⟩⟩ := h
  · exact absurd h3 hi
  · refine ⟨?_, h4⟩
    unfold splitOk
    rw [h4, decide_eq_true h1, Bool.true_and, List.all_eq_true]
    exact h2
end Go.Proofs.YtkklnfihjikilaaDoor
