/- The contracts of At and of what it calls: no statement is proved here. -/
import Derived.Test.YtkklnfihjikilaaDoorPathIn
namespace Go.Proofs.YtkklnfihjikilaaDoor
open Go.RowKit
set_option maxRecDepth 100000

theorem bytesOf_get (s : ByteArray) (k : Nat) (h : k < s.size) : (bytesOf s)[k]? = some ((s[k].toNat : Nat) : Int) := by
  unfold bytesOf
  rw [List.getElem?_map, Array.getElem?_toList, Array.getElem?_eq_getElem (by exact h)]
  rfl
theorem bytesOf_len (s : ByteArray) : (bytesOf s).length = s.size := by rw [bytesOf, List.length_map, Array.length_toList]; rfl
theorem digFrom_step {s : ByteArray} {k : Nat} (h : k < s.size) (n : Int) : digFrom ((bytesOf s).drop k) n = if ((s[k].toNat : Nat) : Int) < 48 ∨ 57 < ((s[k].toNat : Nat) : Int) then -1 else digFrom ((bytesOf s).drop (k + 1)) (10 * n + (((s[k].toNat : Nat) : Int) - 48)) := by
  have h1 := bytesOf_get s k h
  obtain ⟨h2, h3⟩ := List.getElem?_eq_some_iff.1 h1
  rw [List.drop_eq_getElem_cons h2, digFrom, h3]
theorem bytesOf_nil {s : ByteArray} : bytesOf s = [] ↔ s.toList = [] := by
  rw [Lib.toList_data]; simp [bytesOf]
theorem place_empty {s : ByteArray} (h : s.toList = []) : placeN s = -1 := by rw [placeN, if_pos (bytesOf_nil.2 h)]
theorem place_long {s : ByteArray} (h : 9 < s.size) : placeN s = -1 := by
  rw [placeN]
  split
  · rfl
  · rw [if_pos (by rw [bytesOf_len]; exact h)]
theorem one_nought {s : ByteArray} : bytesOf s = [48] ↔ s.toList = [48] := by
  rw [Lib.toList_data]
  unfold bytesOf
  constructor
  · intro h
    rw [List.map_eq_singleton_iff] at h
    obtain ⟨a, h1, h2⟩ := h
    rw [h1]
    have : a = 48 := UInt8.toNat.inj (by have h3 : (a.toNat : Int) = 48 := h2; have : (48 : UInt8).toNat = 48 := rfl; omega)
    rw [this]
  · intro h; rw [h]; rfl
theorem head_of {s : ByteArray} (h : 0 < s.size) : (bytesOf s).head? = some ((s[0].toNat : Nat) : Int) := by
  rw [List.head?_eq_getElem?]; exact bytesOf_get s 0 h
theorem place_nought {s : ByteArray} (h : 0 < s.size) (h0 : ((s[0].toNat : Nat) : Int) = 48) (hn : (!s.toList == [48]) = true) : placeN s = -1 := by
  rw [placeN]
  split
  · rfl
  · split
    · rfl
    · rw [if_pos ⟨by rw [head_of h, h0], fun e => by rw [one_nought.1 e] at hn; simp at hn⟩]
theorem place_digits {s : ByteArray} (h : 0 < s.size) (h9 : s.size ≤ 9) (hn : (s[0].toNat : Int) = 48 → s.toList = [48]) : placeN s = digFrom ((bytesOf s).drop 0) 0 := by
  rw [placeN, if_neg (fun e => by have := bytesOf_len s; rw [e] at this; simp at this; omega), if_neg (by rw [bytesOf_len]; omega), if_neg]
  · rfl
  · rintro ⟨h1, h2⟩
    rw [head_of h] at h1
    injection h1 with h1
    exact h2 (one_nought.2 (hn h1))

theorem size_pos {s : ByteArray} (h : ¬ s.toList = []) : 0 < s.size := by
  rcases Nat.eq_zero_or_pos s.size with h0 | h0
  · exact absurd (bytesOf_nil.1 (List.eq_nil_of_length_eq_zero (by rw [bytesOf_len]; exact h0))) h
  · exact h0
/-- At a round's head: so many digits have been read, and make that number. -/
def DigRel (s : ByteArray) (k : Nat) (m : Int) : Prop := k ≤ s.size ∧ 0 ≤ m ∧ m < 10 ^ k ∧ placeN s = digFrom ((bytesOf s).drop k) m
theorem dig_bad {s : ByteArray} {k : Nat} {m : Int} (h : DigRel s k m) (hk : k < s.size) (hb : ((s[k].toNat : Nat) : Int) < 48 ∨ 57 < ((s[k].toNat : Nat) : Int)) : placeN s = -1 := by
  rw [h.2.2.2, digFrom_step hk, if_pos hb]
theorem dig_next {s : ByteArray} {k : Nat} {m : Int} (h : DigRel s k m) (hk : k < s.size) (h1 : 48 ≤ ((s[k].toNat : Nat) : Int)) (h2 : ((s[k].toNat : Nat) : Int) ≤ 57) : DigRel s (k + 1) (10 * m + (((s[k].toNat : Nat) : Int) - 48)) := by
  obtain ⟨h3, h4, h5, h6⟩ := h
  refine ⟨by omega, by omega, ?_, by rw [h6, digFrom_step hk, if_neg (by omega)]⟩
  rw [Int.pow_succ]
  omega
theorem dig_bound {s : ByteArray} {k : Nat} {m : Int} (h : DigRel s k m) (h9 : s.size ≤ 9) : m < 1000000000 := by
  have h1 : (10 : Nat) ^ k ≤ 10 ^ 9 := Nat.pow_le_pow_right (by omega) (by have := h.1; omega)
  have h2 : (10 : Int) ^ k ≤ 10 ^ 9 := by exact_mod_cast h1
  have := h.2.2.1
  omega
theorem dig_done {s : ByteArray} {k : Nat} {m : Int} (h : DigRel s k m) (hk : ¬ k < s.size) : placeN s = m := by
  rw [h.2.2.2, List.drop_eq_nil_of_le (by rw [bytesOf_len]; omega), digFrom]

theorem nought_of {s : ByteArray} (h1 : ¬ s.toList = []) (h2 : (s.size : Int) ≤ 9) (h3 : (s.toList.isEmpty = true ∨ 9 < (s.size : Int)) ∨ (!s.toList == [48]) = true) : (!s.toList == [48]) = true := by
  rcases h3 with (h | h) | h
  · exact absurd (by simpa using h) h1
  · omega
  · exact h
set_option maxHeartbeats 2000000 in
theorem place_any_ (s : ByteArray) (w : World) : Calls Tryd.prog 62 #[.string s] w fun e w' => e = .returned (.int .i64 (placeN s)) ∧ w' = w := by
  have HP := Lib.hid (fun h : ¬ s.toList = [] => size_pos h)
  go_enter Tryd.func62, Tryd.ntmps62
  go_wp2_with fail
  · go_ret
    exact ⟨ret_int (by rw [place_empty (by assumption)]), rfl⟩
  · go_ret
    exact ⟨ret_int (by rw [place_nought (by assumption) (by assumption) (nought_of (by assumption) (by assumption) (by assumption))]), rfl⟩
  · have h0 : DigRel s 0 0 := ⟨by omega, by omega, by simp, place_digits (by assumption) (by have := ‹(s.size : Int) ≤ 9›; omega) (fun _ => by simp_all)⟩
    have h9 : s.size ≤ 9 := by have := ‹(s.size : Int) ≤ 9›; omega
    have H0 := Lib.hid h0
    rename_i q1 q2 q3 q4 q5 q6 q7
    clear q1 q2 q4 q5 h0
    go_loopw [3, 4, 23] (fun s3 _ s23 wr => ∃ (k : Nat) (m : Int), s3 = .int .i64 m ∧ s23 = .int .i64 k ∧ wr = w ∧ DigRel s k m) (fun _ _ s23 _ => s.size - (intOf s23).toNat)
    case atStart => exact ⟨0, 0, rfl, rfl, rfl, H0.out⟩
    case round =>
      obtain ⟨k, m, rfl, rfl, rfl, hR⟩ := hrel
      have hm := dig_bound hR h9
      have hm0 := hR.2.1
      have HR := Lib.hid hR
      clear hR
      by_cases hk : k < s.size
      · go_wp2_with fail
        · go_ret
          exact ⟨ret_int (by rw [dig_bad HR.out hk (by assumption)]), rfl⟩
        · have q := ‹48 ≤ ((s[k].toNat : Nat) : Int) ∧ ((s[k].toNat : Nat) : Int) ≤ 57›
          go_roundw
          case rel => exact ⟨k + 1, 10 * m + (((s[k].toNat : Nat) : Int) - 48), by go_num, by go_num, trivial, dig_next HR.out hk q.1 q.2⟩
          case measure => simp [intOf]; omega
        · go_ret
          exact ⟨ret_int (by rw [dig_bad HR.out hk (.inl (by assumption))]), rfl⟩
      · go_wp2_with fail
        go_ret
        exact ⟨ret_int (by rw [dig_done HR.out hk]), rfl⟩
  · exfalso
    have h1 := ‹s.toList.isEmpty = true ∨ 9 < (s.size : Int)›
    simp_all
    omega
  · have h0 : DigRel s 0 0 := ⟨by omega, by omega, by simp, place_digits (by assumption) (by have := ‹(s.size : Int) ≤ 9›; omega) (fun h => absurd h (by assumption))⟩
    have h9 : s.size ≤ 9 := by have := ‹(s.size : Int) ≤ 9›; omega
    have H0 := Lib.hid h0
    rename_i q1 q2 q3 q4 q5 q6 q7
    clear q1 q2 q4 q5 h0
    go_loopw [3, 4, 23] (fun s3 _ s23 wr => ∃ (k : Nat) (m : Int), s3 = .int .i64 m ∧ s23 = .int .i64 k ∧ wr = w ∧ DigRel s k m) (fun _ _ s23 _ => s.size - (intOf s23).toNat)
    case atStart => exact ⟨0, 0, rfl, rfl, rfl, H0.out⟩
    case round =>
      obtain ⟨k, m, rfl, rfl, rfl, hR⟩ := hrel
      have hm := dig_bound hR h9
      have hm0 := hR.2.1
      have HR := Lib.hid hR
      clear hR
      by_cases hk : k < s.size
      · go_wp2_with fail
        · go_ret
          exact ⟨ret_int (by rw [dig_bad HR.out hk (by assumption)]), rfl⟩
        · have q := ‹48 ≤ ((s[k].toNat : Nat) : Int) ∧ ((s[k].toNat : Nat) : Int) ≤ 57›
          go_roundw
          case rel => exact ⟨k + 1, 10 * m + (((s[k].toNat : Nat) : Int) - 48), by go_num, by go_num, trivial, dig_next HR.out hk q.1 q.2⟩
          case measure => simp [intOf]; omega
        · go_ret
          exact ⟨ret_int (by rw [dig_bad HR.out hk (.inl (by assumption))]), rfl⟩
      · go_wp2_with fail
        go_ret
        exact ⟨ret_int (by rw [dig_done HR.out hk]), rfl⟩
  · exfalso
    exact absurd (HP.out (by assumption)) (by assumption)
  · go_ret
    exact ⟨ret_int (by rw [place_long (by have := ‹9 < (s.size : Int)›; omega)]), rfl⟩
end Go.Proofs.YtkklnfihjikilaaDoor
