/- What ValueSides says, plainly: what was put is found, all else stays; a sorted list has each value as often. No statement is proved here. -/
import Derived.Test.YtlmlehjfockkpaaDoorStable
import Derived.Test.YtlmlehjfockkpaaDoorRefWithout
namespace Go.Proofs.YtlmlehjfockkpaaDoor
open Go.RowKit
set_option maxRecDepth 100000

theorem find_put (d : List (ByteArray × V)) (s : ByteArray) (y : V) : findD (putD d s y) s = some y := by
  induction d with
  | nil => rw [putD, findD, if_pos (by simp)]
  | cons z r ih =>
    obtain ⟨f, z⟩ := z
    rw [putD]
    split
    · rename_i h; rw [findD, if_pos h]
    · rename_i h; rw [findD, if_neg h, ih]
theorem find_put_other (d : List (ByteArray × V)) (s o : ByteArray) (y : V) (ho : ¬ o.toList = s.toList) : findD (putD d s y) o = findD d o := by
  induction d with
  | nil =>
    have h2 : ¬ (s.toList == o.toList) = true := by simp; exact fun e => ho e.symm
    simp only [putD, findD]
    rw [if_neg h2]
  | cons z r ih =>
    obtain ⟨f, z⟩ := z
    rw [putD]
    split
    · rename_i h
      have h1 : f.toList = s.toList := by simpa using h
      have h2 : ¬ (f.toList == o.toList) = true := by simp; exact fun e => ho (e.symm.trans h1)
      rw [findD, findD, if_neg h2, if_neg h2]
    · rw [findD, findD, ih]
theorem find_out (d : List (ByteArray × V)) (s : ByteArray) : findD (d.filter fun f => other s f.1) s = none := by
  induction d with
  | nil => rfl
  | cons z r ih =>
    obtain ⟨f, z⟩ := z
    rw [List.filter_cons]
    split
    · rename_i h
      have h1 : ¬ (f.toList == s.toList) = true := by simpa [other] using h
      rw [findD, if_neg h1, ih]
    · exact ih
theorem find_out_other (d : List (ByteArray × V)) (s o : ByteArray) (ho : ¬ o.toList = s.toList) : findD (d.filter fun f => other s f.1) o = findD d o := by
  induction d with
  | nil => rfl
  | cons z r ih =>
    obtain ⟨f, z⟩ := z
    rw [List.filter_cons]
    split
    · rw [findD, findD, ih]
    · rename_i h
      have h1 : f.toList = s.toList := by simpa [other] using h
      have h2 : ¬ (f.toList == o.toList) = true := by simp; exact fun e => ho (e.symm.trans h1)
      rw [findD, if_neg h2, ih]
theorem get_with {v y : V} {s : ByteArray} (h : ∃ n t l d, v = .mk 5 n t l d) : getV (withV v s y) s = some y := by
  obtain ⟨n, t, l, d, rfl⟩ := h
  rw [withV, if_pos rfl, getV, if_pos rfl, find_put]
theorem get_with_other {v y : V} {s o : ByteArray} (h : ∃ n t l d, v = .mk 5 n t l d) (ho : ¬ o.toList = s.toList) : getV (withV v s y) o = getV v o := by
  obtain ⟨n, t, l, d, rfl⟩ := h
  rw [withV, if_pos rfl, getV, if_pos rfl, getV, if_pos rfl, find_put_other _ _ _ _ ho]
theorem get_without {v : V} {s : ByteArray} (h : ∃ n t l d, v = .mk 5 n t l d) : getV (withoutV v s) s = none := by
  obtain ⟨n, t, l, d, rfl⟩ := h
  rw [withoutV, if_pos rfl, getV, if_pos rfl, find_out]
theorem get_without_other {v : V} {s o : ByteArray} (h : ∃ n t l d, v = .mk 5 n t l d) (ho : ¬ o.toList = s.toList) : getV (withoutV v s) o = getV v o := by
  obtain ⟨n, t, l, d, rfl⟩ := h
  rw [withoutV, if_pos rfl, getV, if_pos rfl, getV, if_pos rfl, find_out_other _ _ _ ho]

/-- How often a value stands in a list. -/
def times (v : V) (l : List V) : Nat := l.countP fun x => sameV x v
theorem times_le (v : V) (l : List V) : times v l ≤ l.length := List.countP_le_length
theorem times_step {v : V} {l : List V} {k : Nat} {x : V} (hx : l[k]? = some x) : times v (l.take (k + 1)) = times v (l.take k) + if sameV x v then 1 else 0 := by
  rw [List.take_add_one, hx, times, List.countP_append]
  simp [times]
theorem times_perm {v : V} {l r : List V} (h : l.Perm r) : times v l = times v r := h.countP_eq _
/-- How much more often a value stands ahead of place k in one list than in another one. -/
def CntRel (v : V) (L S : List V) (k : Nat) (d : Int) : Prop := d = (times v (L.take k) : Int) - (times v (S.take k) : Int)
theorem cnt_zero (v : V) (L S : List V) : CntRel v L S 0 0 := by simp [CntRel, times]
theorem cnt_bounds {v : V} {L S : List V} {k : Nat} {d : Int} (h : CntRel v L S k d) : -(k : Int) ≤ d ∧ d ≤ (k : Int) := by
  have h1 := times_le v (L.take k)
  have h2 := times_le v (S.take k)
  rw [List.length_take] at h1 h2
  unfold CntRel at h
  omega
theorem cnt_step {v : V} {L S : List V} {k : Nat} {d : Int} {x y : V} (h : CntRel v L S k d) (hx : L[k]? = some x) (hy : S[k]? = some y) : CntRel v L S (k + 1) (d + (if sameV x v then 1 else 0) - (if sameV y v then 1 else 0)) := by
  unfold CntRel at h ⊢
  rw [times_step hx, times_step hy]
  split <;> split <;> omega
theorem cnt_done {v : V} {L S : List V} {k : Nat} {d : Int} (h : CntRel v L S k d) (hp : S.Perm L) (hk : L.length ≤ k) : d = 0 := by
  unfold CntRel at h
  rw [List.take_of_length_le hk, List.take_of_length_le (by rw [hp.length_eq]; exact hk), times_perm hp] at h
  omega
theorem sorted_step {l : List V} {i : Nat} {x y : V} (h : Ord cmpV l) (hx : l[i]? = some x) (hy : l[i + 1]? = some y) : cmpV x y ≤ 0 := by
  obtain ⟨p1, rfl⟩ := List.getElem?_eq_some_iff.1 hx
  obtain ⟨p2, rfl⟩ := List.getElem?_eq_some_iff.1 hy
  exact List.pairwise_iff_getElem.1 h i (i + 1) p1 p2 (by omega)
end Go.Proofs.YtlmlehjfockkpaaDoor
