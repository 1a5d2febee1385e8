/- Sums of bytes as mathematics: turns, rows gone through, sums joined; bursts are told. No statement is proved here. -/
namespace Go.Proofs.YtlpnhfceblbllaaDoor
/-- A turn of a number. -/
def turn (r : Nat) : Nat := if r % 2 = 1 then r / 2 ^^^ 3988292384 else r / 2
def turnsN : Nat → Nat → Nat
  | 0, r => r
  | n + 1, r => turnsN n (turn r)
theorem turnsN_add (m n r : Nat) : turnsN (m + n) r = turnsN n (turnsN m r) := by
  induction m generalizing r with
  | zero => simp [turnsN]
  | succ m ih => rw [Nat.succ_add, turnsN, turnsN, ih]
theorem turnsN_succ (n r : Nat) : turnsN (n + 1) r = turn (turnsN n r) := by rw [turnsN_add]; rfl
theorem turn_zero : turn 0 = 0 := rfl
theorem turnsN_zero (n : Nat) : turnsN n 0 = 0 := by
  induction n with
  | zero => rfl
  | succ n ih => rw [turnsN, turn_zero, ih]
theorem xor_self_left (a b : Nat) : a ^^^ (a ^^^ b) = b := by rw [← Nat.xor_assoc, Nat.xor_self, Nat.zero_xor]
theorem xor_left_comm (a b c : Nat) : a ^^^ (b ^^^ c) = b ^^^ (a ^^^ c) := by rw [← Nat.xor_assoc, Nat.xor_comm a b, Nat.xor_assoc]
theorem turn_xor (a b : Nat) : turn (a ^^^ b) = turn a ^^^ turn b := by
  unfold turn
  have h := @Nat.xor_mod_two_eq_one a b
  have e := @Nat.xor_div_two a b
  generalize 3988292384 = P
  by_cases ha : a % 2 = 1 <;> by_cases hb : b % 2 = 1
  · rw [if_neg (by rw [h]; simp [ha, hb]), if_pos ha, if_pos hb, e, Nat.xor_assoc, xor_left_comm P, Nat.xor_self, Nat.xor_zero]
  · rw [if_pos (by rw [h]; simp [ha, hb]), if_pos ha, if_neg hb, e, Nat.xor_assoc, Nat.xor_assoc, Nat.xor_comm P]
  · rw [if_pos (by rw [h]; simp [ha, hb]), if_neg ha, if_pos hb, e, Nat.xor_assoc]
  · rw [if_neg (by rw [h]; simp [ha, hb]), if_neg ha, if_neg hb, e]
theorem turnsN_xor (n a b : Nat) : turnsN n (a ^^^ b) = turnsN n a ^^^ turnsN n b := by
  induction n generalizing a b with
  | zero => rfl
  | succ n ih => rw [turnsN, turn_xor, ih]; rfl
theorem turn_lt {r : Nat} (h : r < 4294967296) : turn r < 4294967296 := by
  unfold turn
  split
  · exact Nat.xor_lt_two_pow (n := 32) (by omega) (by omega)
  · omega
theorem turnsN_lt (n : Nat) {r : Nat} (h : r < 4294967296) : turnsN n r < 4294967296 := by
  induction n generalizing r with
  | zero => exact h
  | succ n ih => exact ih (turn_lt h)
theorem turn_inj {r : Nat} (h : r < 4294967296) (e : turn r = 0) : r = 0 := by
  unfold turn at e
  split at e
  · have h2 : r / 2 = 3988292384 := by
      have := congrArg (· ^^^ 3988292384) e
      simpa [Nat.xor_assoc] using this
    omega
  · omega
theorem turnsN_inj (n : Nat) {r : Nat} (h : r < 4294967296) (e : turnsN n r = 0) : r = 0 := by
  induction n generalizing r with
  | zero => exact e
  | succ n ih => exact turn_inj h (ih (turn_lt h) e)
/-- Eight turns. -/
def t8 (r : Nat) : Nat := turnsN 8 r
theorem t8_xor (a b : Nat) : t8 (a ^^^ b) = t8 a ^^^ t8 b := turnsN_xor 8 a b
theorem t8_lt {r : Nat} (h : r < 4294967296) : t8 r < 4294967296 := turnsN_lt 8 h
theorem t8_inj {r : Nat} (h : r < 4294967296) (e : t8 r = 0) : r = 0 := turnsN_inj 8 h e
theorem t8_zero : t8 0 = 0 := turnsN_zero 8
theorem turn_double (n : Nat) : turn (2 * n) = n := by unfold turn; rw [if_neg (by omega)]; omega
theorem t8_up (n : Nat) : t8 (256 * n) = n := by
  have e : 256 * n = 2 * (2 * (2 * (2 * (2 * (2 * (2 * (2 * n))))))) := by omega
  rw [e, t8]
  simp only [turnsN, turn_double]
theorem turn_def (r : Nat) : turn r = if r % 2 = 1 then r / 2 ^^^ 3988292384 else r / 2 := rfl
theorem t8_def (r : Nat) : t8 r = turnsN 8 r := rfl
attribute [irreducible] t8 turn
/-- Eight turns, so often. -/
def t8N : Nat → Nat → Nat
  | 0, r => r
  | n + 1, r => t8N n (t8 r)
theorem t8N_add (m n r : Nat) : t8N (m + n) r = t8N n (t8N m r) := by
  induction m generalizing r with
  | zero => simp [t8N]
  | succ m ih => rw [Nat.succ_add, t8N, t8N, ih]
theorem t8N_xor (n a b : Nat) : t8N n (a ^^^ b) = t8N n a ^^^ t8N n b := by
  induction n generalizing a b with
  | zero => rfl
  | succ n ih => rw [t8N, t8_xor, ih]; rfl
theorem t8N_zero (n : Nat) : t8N n 0 = 0 := by
  induction n with
  | zero => rfl
  | succ n ih => rw [t8N, t8_zero, ih]
theorem t8N_lt (n : Nat) {r : Nat} (h : r < 4294967296) : t8N n r < 4294967296 := by
  induction n generalizing r with
  | zero => exact h
  | succ n ih => exact ih (t8_lt h)
theorem t8N_inj (n : Nat) {r : Nat} (h : r < 4294967296) (e : t8N n r = 0) : r = 0 := by
  induction n generalizing r with
  | zero => exact e
  | succ n ih => exact t8_inj h (ih (t8_lt h) e)
/-- Numbers gone through. -/
def crc (r : Nat) : List Nat → Nat
  | [] => r
  | b :: l => crc (t8 (r ^^^ b)) l
theorem crc_append (r : Nat) (a b : List Nat) : crc r (a ++ b) = crc (crc r a) b := by
  induction a generalizing r with
  | nil => rfl
  | cons x a ih => rw [List.cons_append, crc, crc, ih]
theorem crc_snoc (r : Nat) (a : List Nat) (b : Nat) : crc r (a ++ [b]) = t8 (crc r a ^^^ b) := by rw [crc_append]; rfl
theorem crc_lt {r : Nat} (l : List Nat) (h : r < 4294967296) (hl : ∀ b ∈ l, b < 256) : crc r l < 4294967296 := by
  induction l generalizing r with
  | nil => exact h
  | cons b l ih =>
    refine ih (t8_lt (Nat.xor_lt_two_pow (n := 32) h ?_)) fun x hx => hl x (by simp [hx])
    have := hl b (by simp); omega
/-- Two rows exchanged. -/
def xorL : List Nat → List Nat → List Nat
  | a :: l, b :: m => (a ^^^ b) :: xorL l m
  | _, _ => []
theorem xorL_len : ∀ (a b : List Nat), a.length = b.length → (xorL a b).length = a.length
  | [], [], _ => rfl
  | a :: l, b :: m, h => by simp [xorL]; exact xorL_len l m (by simpa using h)
theorem crc_xor (a b : List Nat) (h : a.length = b.length) (r s : Nat) : crc (r ^^^ s) (xorL a b) = crc r a ^^^ crc s b := by
  induction a generalizing b r s with
  | nil => cases b with
    | nil => rfl
    | cons => cases h
  | cons x a ih => cases b with
    | nil => cases h
    | cons y b =>
      rw [xorL, crc, crc, crc, ← ih b (by simpa using h), ← t8_xor]
      congr 2
      rw [Nat.xor_assoc, Nat.xor_assoc, xor_left_comm s]
theorem xorL_zeros (b : List Nat) : xorL b (List.replicate b.length 0) = b := by
  induction b with
  | nil => rfl
  | cons x b ih => simp [List.replicate_succ, xorL, ih]
theorem crc_zeros (n r : Nat) : crc r (List.replicate n 0) = t8N n r := by
  induction n generalizing r with
  | zero => rfl
  | succ n ih => rw [List.replicate_succ, crc, ih, Nat.xor_zero]; rfl
theorem crc_shift (r s : Nat) (b : List Nat) : crc (r ^^^ s) b = crc r b ^^^ t8N b.length s := by
  rw [← crc_zeros b.length s, ← crc_xor b (List.replicate b.length 0) (by simp), xorL_zeros]
/-- The sum, behind a sum. -/
def moreN (s : Nat) (l : List Nat) : Nat := crc (s ^^^ 4294967295) l ^^^ 4294967295
theorem moreN_lt {s : Nat} (l : List Nat) (h : s < 4294967296) (hl : ∀ b ∈ l, b < 256) : moreN s l < 4294967296 :=
  Nat.xor_lt_two_pow (n := 32) (crc_lt l (Nat.xor_lt_two_pow (n := 32) h (by omega)) hl) (by omega)
theorem moreN_append (s : Nat) (a b : List Nat) : moreN s (a ++ b) = moreN (moreN s a) b := by
  unfold moreN
  rw [crc_append, Nat.xor_assoc, Nat.xor_self, Nat.xor_zero]
/-- Sums joined. -/
def joinN (x y n : Nat) : Nat := t8N n x ^^^ y
theorem moreN_join (s : Nat) (a b : List Nat) : moreN s (a ++ b) = joinN (moreN s a) (moreN 0 b) b.length := by
  rw [moreN_append]
  unfold joinN
  generalize moreN s a = A
  unfold moreN
  rw [Nat.xor_comm A, crc_shift, Nat.zero_xor, Nat.xor_comm (crc _ _), Nat.xor_assoc]
theorem joinN_join (x y z m n : Nat) : joinN x (joinN y z n) (m + n) = joinN (joinN x y m) z n := by
  unfold joinN
  rw [t8N_add, t8N_xor, Nat.xor_assoc]
theorem joinN_lt {x y : Nat} (n : Nat) (hx : x < 4294967296) (hy : y < 4294967296) : joinN x y n < 4294967296 := Nat.xor_lt_two_pow (n := 32) (t8N_lt n hx) hy
theorem moreN_affine (a b c : List Nat) (h1 : a.length = b.length) (h2 : b.length = c.length) : moreN 0 (xorL (xorL a b) c) = moreN 0 a ^^^ moreN 0 b ^^^ moreN 0 c := by
  unfold moreN
  simp only [Nat.zero_xor]
  have e : (4294967295 : Nat) = 4294967295 ^^^ 4294967295 ^^^ 4294967295 := by decide
  conv => lhs; rw [show crc 4294967295 = crc (4294967295 ^^^ 4294967295 ^^^ 4294967295) from by rw [← e]]
  rw [crc_xor _ _ (by rw [xorL_len _ _ h1]; omega), crc_xor _ _ h1]
  generalize crc 4294967295 a = A
  generalize crc 4294967295 b = B
  generalize crc 4294967295 c = C
  generalize 4294967295 = F
  have e1 : A ^^^ F ^^^ (B ^^^ F) ^^^ (C ^^^ F) = (A ^^^ B ^^^ C ^^^ F) ^^^ (F ^^^ F) := by
    simp only [Nat.xor_assoc]
    congr 1
    rw [xor_left_comm F B]
    congr 1
    rw [xor_left_comm F C]
    rw [xor_left_comm F C]
  rw [e1, Nat.xor_self, Nat.xor_zero]
/-- The number that some bytes are, the lowest first. -/
def numN : List Nat → Nat
  | [] => 0
  | b :: l => b ^^^ 256 * numN l
theorem crc_num (l : List Nat) (r : Nat) : crc r l = t8N l.length (r ^^^ numN l) := by
  induction l generalizing r with
  | nil => simp [crc, numN, t8N]
  | cons b l ih =>
    rw [crc, ih, List.length_cons, t8N, numN]
    congr 1
    rw [← Nat.xor_assoc, t8_xor (r ^^^ b), t8_up]
theorem numN_lt (l : List Nat) (hl : ∀ b ∈ l, b < 256) : numN l < 256 ^ l.length := by
  induction l with
  | nil => simp [numN]
  | cons b l ih =>
    have h1 := hl b (by simp)
    have h2 := ih fun x hx => hl x (by simp [hx])
    rw [numN, List.length_cons, Nat.pow_succ]
    have e : (256 : Nat) ^ l.length * 256 = 2 ^ (8 * l.length + 8) := by rw [Nat.pow_add, Nat.pow_mul]
    rw [e]
    have h3 : 256 * numN l < 2 ^ (8 * l.length + 8) := by rw [← e]; omega
    have h4 : b < 2 ^ (8 * l.length + 8) := by
      have : 256 ^ 1 ≤ (256 : Nat) ^ l.length * 256 := by rw [← Nat.pow_succ]; exact Nat.pow_le_pow_right (by decide) (by omega)
      rw [← e]; omega
    exact Nat.xor_lt_two_pow h4 h3
theorem numN_zero (l : List Nat) (hl : ∀ b ∈ l, b < 256) (h : numN l = 0) : ∀ b ∈ l, b = 0 := by
  induction l with
  | nil => simp
  | cons b l ih =>
    rw [numN] at h
    have h1 := hl b (by simp)
    have h2 : b = 256 * numN l := by
      have := congrArg (b ^^^ ·) h
      simp only [xor_self_left, Nat.xor_zero] at this
      exact this.symm
    have h3 : numN l = 0 := by omega
    intro x hx
    rcases List.mem_cons.1 hx with rfl | hx
    · omega
    · exact ih (fun x hx => hl x (by simp [hx])) h3 x hx
/-- Bytes that differ within four neighbouring ones alone have unlike sums. -/
theorem moreN_tells (a d e c : List Nat) (hl : d.length = e.length) (h4 : d.length ≤ 4) (hd : ∀ b ∈ d, b < 256) (he : ∀ b ∈ e, b < 256) :
    moreN 0 (a ++ (d ++ c)) = moreN 0 (a ++ (e ++ c)) ↔ d = e := by
  constructor
  · intro h
    unfold moreN at h
    have h1 : crc (0 ^^^ 4294967295) (a ++ (d ++ c)) = crc (0 ^^^ 4294967295) (a ++ (e ++ c)) := by
      have := congrArg (· ^^^ 4294967295) h
      simpa only [Nat.xor_assoc, Nat.xor_self, Nat.xor_zero] using this
    rw [crc_append, crc_append, crc_append, crc_append] at h1
    generalize crc (0 ^^^ 4294967295) a = A at h1
    have hx : ∀ b ∈ xorL d e, b < 256 := by
      clear h1 h h4
      induction d generalizing e with
      | nil => cases e <;> simp [xorL]
      | cons x d ih => cases e with
        | nil => cases hl
        | cons y e =>
          intro b hb
          rw [xorL] at hb
          rcases List.mem_cons.1 hb with rfl | hb
          · exact Nat.xor_lt_two_pow (n := 8) (hd x (by simp)) (he y (by simp))
          · exact ih e (by simpa using hl) (fun b hb => hd b (by simp [hb])) (fun b hb => he b (by simp [hb])) b hb
    have h3 : t8N c.length (crc A d ^^^ crc A e) = 0 := by
      have e1 := crc_shift (crc A d) (crc A d ^^^ crc A e) c
      rw [xor_self_left, ← h1] at e1
      have := congrArg (crc (crc A d) c ^^^ ·) e1
      simp only [xor_self_left, Nat.xor_self] at this
      exact this.symm
    rw [← crc_xor d e hl, Nat.xor_self, crc_num, Nat.zero_xor] at h3
    have h5 : numN (xorL d e) < 4294967296 := by
      have := numN_lt _ hx
      rw [xorL_len _ _ hl] at this
      exact Nat.lt_of_lt_of_le this (Nat.le_trans (Nat.pow_le_pow_right (by decide) h4) (by decide))
    have h6 := t8N_inj _ h5 (t8N_inj _ (t8N_lt _ h5) h3)
    have h7 := numN_zero _ hx h6
    clear h1 h h3 h5 h6 h4 hx hd he
    induction d generalizing e with
    | nil => cases e with
      | nil => rfl
      | cons => cases hl
    | cons x d ih => cases e with
      | nil => cases hl
      | cons y e =>
        rw [xorL] at h7
        have h8 := h7 (x ^^^ y) (by simp)
        have h9 : x = y := by
          have := congrArg (x ^^^ ·) h8
          simp only [xor_self_left, Nat.xor_zero] at this
          exact this.symm
        rw [h9, ih e (by simpa using hl) fun b hb => h7 b (by simp [hb])]
  · rintro rfl; rfl
end Go.Proofs.YtlpnhfceblbllaaDoor
