/- What turns make of each bit makes what they make of a number: plain words. No statement is proved here. -/
import Derived.Test.YtlpnhfceblbllaaDoorSPure
namespace Go.Proofs.YtlpnhfceblbllaaDoor

/-- What a row of what becomes of each bit makes of a number. -/
def timesN : List Nat → Nat → Nat
  | [], _ => 0
  | x :: m, r => (if r % 2 = 1 then x else 0) ^^^ timesN m (r / 2)
theorem timesN_snoc (m : List Nat) (x r : Nat) : timesN (m ++ [x]) r = timesN m r ^^^ (if r / 2 ^ m.length % 2 = 1 then x else 0) := by
  induction m generalizing r with
  | nil => simp [timesN]
  | cons y m ih =>
    rw [List.cons_append, timesN, timesN, ih, Nat.xor_assoc, List.length_cons, Nat.pow_succ, Nat.mul_comm, Nat.div_div_eq_div_mul]
theorem timesN_next {m : List Nat} {k x r : Nat} (hx : m[k]? = some x) : timesN (m.take (k + 1)) r = timesN (m.take k) r ^^^ (if r / 2 ^ k % 2 = 1 then x else 0) := by
  have hk : k < m.length := (List.getElem?_eq_some_iff.1 hx).1
  rw [List.take_add_one, hx]
  have := timesN_snoc (m.take k) x r
  rw [List.length_take, Nat.min_eq_left (by omega)] at this
  exact this
theorem half_xor (r : Nat) : r % 2 ^^^ 2 * (r / 2) = r := by
  have h1 : (r % 2 ^^^ 2 * (r / 2)) / 2 = r / 2 := by
    rw [Nat.xor_div_two]
    have e1 : r % 2 / 2 = 0 := by omega
    have e2 : 2 * (r / 2) / 2 = r / 2 := by omega
    rw [e1, e2, Nat.zero_xor]
  have h2 : (r % 2 ^^^ 2 * (r / 2)) % 2 = r % 2 := by
    have h := @Nat.xor_mod_two_eq_one (r % 2) (2 * (r / 2))
    have e1 : r % 2 % 2 = r % 2 := by omega
    have e2 : ¬ (2 * (r / 2)) % 2 = 1 := by omega
    rw [e1] at h
    simp only [e2, iff_false, Decidable.not_not] at h
    omega
  omega
theorem pow_xor (k a b : Nat) : 2 ^ k * (a ^^^ b) = 2 ^ k * a ^^^ 2 ^ k * b := by
  have := @Nat.shiftLeft_xor_distrib k a b
  simp only [Nat.shiftLeft_eq] at this
  rw [Nat.mul_comm, this, Nat.mul_comm a, Nat.mul_comm b]
theorem times_is {L : Nat → Nat} (h0 : L 0 = 0) (hL : ∀ a b, L (a ^^^ b) = L a ^^^ L b) (n : Nat) : ∀ k r, r < 2 ^ n → timesN ((List.range' k n).map fun i => L (2 ^ i)) r = L (2 ^ k * r) := by
  induction n with
  | zero => intro k r hr; have : r = 0 := by omega
            subst this; simp [timesN, h0]
  | succ n ih =>
    intro k r hr
    rw [List.range'_succ, List.map_cons, timesN, ih (k + 1) (r / 2) (by rw [Nat.pow_succ] at hr; omega)]
    have e : L (2 ^ k * r) = L (2 ^ k * (r % 2)) ^^^ L (2 ^ (k + 1) * (r / 2)) := by
      conv => lhs; rw [← half_xor r]
      rw [pow_xor, hL, Nat.pow_succ, Nat.mul_assoc]
    rw [e]
    by_cases h : r % 2 = 1
    · rw [if_pos h, h, Nat.mul_one]
    · have h2 : r % 2 = 0 := by omega
      rw [if_neg h, h2, Nat.mul_zero, h0]
/-- What so many times eight turns make of each bit. -/
def rowN (n : Nat) : List Nat := (List.range' 0 32).map fun i => t8N n (2 ^ i)
theorem rowN_len (n : Nat) : (rowN n).length = 32 := by rw [rowN, List.length_map, List.length_range']
theorem rowN_get (n : Nat) {i : Nat} (hi : i < 32) : (rowN n)[i]? = some (t8N n (2 ^ i)) := by
  rw [rowN, List.getElem?_map, List.getElem?_range' (by omega)]; simp
theorem rowN_times (n : Nat) {r : Nat} (hr : r < 4294967296) : timesN (rowN n) r = t8N n r := by
  rw [rowN, times_is (t8N_zero n) (t8N_xor n) 32 0 r hr, Nat.pow_zero, Nat.one_mul]
theorem pow_lt32 {i : Nat} (hi : i < 32) : 2 ^ i < 4294967296 := Nat.pow_lt_pow_right (by decide) hi
theorem rowN_lt (n : Nat) : ∀ x ∈ rowN n, x < 4294967296 := by
  intro x hx
  obtain ⟨i, hi, rfl⟩ := List.mem_map.1 hx
  have := List.mem_range'_1.1 hi
  exact t8N_lt n (pow_lt32 (by omega))
theorem rowN_one : rowN 1 = (List.range' 0 32).map fun i => t8 (2 ^ i) := rfl
theorem rowN_next (n : Nat) : rowN (n + n) = (rowN n).map fun x => timesN (rowN n) x := by
  show (List.range' 0 32).map (fun i => t8N (n + n) (2 ^ i)) = ((List.range' 0 32).map fun i => t8N n (2 ^ i)).map fun x => timesN (rowN n) x
  rw [List.map_map]
  refine List.map_congr_left fun i hi => ?_
  have := List.mem_range'_1.1 hi
  rw [Function.comp_apply, rowN_times n (t8N_lt n (pow_lt32 (by omega))), t8N_add]
theorem take_map_next {α β : Type} {f : α → β} {l : List α} {k : Nat} {x : α} (hx : l[k]? = some x) : (l.take (k + 1)).map f = (l.take k).map f ++ [f x] := by
  rw [List.take_add_one, hx, List.map_append]; rfl
/-- A round of squaring. -/
theorem square_odd {n0 k x : Nat} (h : n0 / 2 ^ k % 2 = 1) : t8N (2 ^ k) (t8N (n0 % 2 ^ k) x) = t8N (n0 % 2 ^ (k + 1)) x := by
  rw [← t8N_add]
  congr 1
  have e := Nat.mod_pow_succ (x := n0) (b := 2) (k := k)
  rw [e, h, Nat.mul_one]
theorem square_even {n0 k x : Nat} (h : ¬ n0 / 2 ^ k % 2 = 1) : t8N (n0 % 2 ^ k) x = t8N (n0 % 2 ^ (k + 1)) x := by
  congr 1
  have e := Nat.mod_pow_succ (x := n0) (b := 2) (k := k)
  have h2 : n0 / 2 ^ k % 2 = 0 := by omega
  rw [e, h2, Nat.mul_zero, Nat.add_zero]
theorem square_end {n0 k x : Nat} (h : n0 / 2 ^ k = 0) : t8N (n0 % 2 ^ k) x = t8N n0 x := by
  have h2 : n0 < 2 ^ k := by
    rcases Nat.lt_or_ge n0 (2 ^ k) with h2 | h2
    · exact h2
    · have := Nat.div_pos h2 (Nat.two_pow_pos k); omega
  rw [Nat.mod_eq_of_lt h2]
theorem square_half (n0 k : Nat) : n0 / 2 ^ k / 2 = n0 / 2 ^ (k + 1) := by rw [Nat.div_div_eq_div_mul, Nat.pow_succ]
end Go.Proofs.YtlpnhfceblbllaaDoor
