/- The document's own turns and sums: their contracts. A page's bytes, as plain words. What turns make of each bit makes what they make of a number: plain words. No statement is proved here. -/
import Derived.Test.YtophhnolnlbecaaDoorQ1
namespace Go.Proofs.YtophhnolnlbecaaDoor
open Go.RowKit
set_option maxRecDepth 100000

theorem xor32 (a b : Nat) (ha : a < 4294967296) (hb : b < 4294967296) : bits .xor .u32 (a : Int) (b : Int) = ((a ^^^ b : Nat) : Int) := by
  have := u32_xor (a : Int) (b : Int) (by omega) (by omega) (by omega) (by omega)
  simpa using this
theorem xorF (a : Nat) (ha : a < 4294967296) : bits .xor .u32 (a : Int) 4294967295 = ((a ^^^ 4294967295 : Nat) : Int) := xor32 a 4294967295 ha (by omega)
theorem wrapF (a : Nat) (ha : a < 4294967296) : wrap64 (bits .xor .u32 (a : Int) 4294967295) = ((a ^^^ 4294967295 : Nat) : Int) := by
  have := Nat.xor_lt_two_pow (n := 32) ha (show 4294967295 < 2 ^ 32 by omega)
  rw [xorF a ha]
  generalize a ^^^ 4294967295 = b at *
  simp only [wrap64]
  omega
theorem turn_odd {x : Nat} (hx : x < 4294967296) (h : x % 2 = 1) : bits .xor .u32 ((x : Int) / 2) 3988292384 = ((turn x : Nat) : Int) := by
  have e := xor32 (x / 2) 3988292384 (by omega) (by omega)
  rw [turn_def, if_pos h, ← e]
  rfl
theorem turn_even {x : Nat} (h : ¬ x % 2 = 1) : ((x : Int) / 2) = ((turn x : Nat) : Int) := by
  rw [turn_def, if_neg h]
  rfl
theorem turns_any (r n : Nat) (hr : r < 4294967296) (hn : n ≤ 9223372036854775807) (w : World) :
    Calls Tryd.prog 80 #[.int .u32 (r : Int), .int .i64 (n : Int)] w fun e w' => e = .returned (.int .u32 (turnsN n r : Nat)) ∧ w = w' := by
  go_enter Tryd.func80, Tryd.ntmps80
  go_wp2
  go_loop [0, 5] (fun u i => ∃ (k x : Nat), k ≤ n ∧ i = .int .i64 k ∧ u = .int .u32 x ∧ x < 4294967296 ∧ x = turnsN k r) (fun _ i => n - (intOf i).toNat)
  case atStart => exact ⟨0, r, by omega, rfl, rfl, hr, rfl⟩
  case round =>
    obtain ⟨k, x, hk, rfl, rfl, hx, hs⟩ := hrel
    have HS := Lib.hid hs
    clear hs
    by_cases hlt : k < n
    · by_cases hp : x % 2 = 1
      · have hb : (((x : Int) % 2) == 1) = true := by simp; omega
        have HT := Lib.hid (turn_odd hx hp)
        go_wp2
        go_round
        case rel => exact ⟨k + 1, turn x, by omega, by go_num, by rw [HT.out], turn_lt hx, by rw [turnsN_succ, HS.out]⟩
        case measure => simp [intOf]; omega
      · have hb : (((x : Int) % 2) == 1) = false := by simp; omega
        have HT := Lib.hid (turn_even hp)
        go_wp2
        go_round
        case rel => exact ⟨k + 1, turn x, by omega, by go_num, by rw [HT.out], turn_lt hx, by rw [turnsN_succ, HS.out]⟩
        case measure => simp [intOf]; omega
    · have hkn : k = n := by omega
      subst hkn
      go_wp2
      go_ret
      exact ⟨ret_int (by rw [HS.out]), rfl⟩

/-- Is it a sum? -/
def mayB (s : Int) : Bool := decide (0 ≤ s ∧ s ≤ 4294967295)
theorem may_any (s : Int) (w : World) : Calls Tryd.prog 79 #[.int .i64 s] w fun e w' => e = .returned (.bool (mayB s)) ∧ w = w' := by
  by_cases h1 : 0 ≤ s
  · by_cases h2 : s ≤ 4294967295
    · have hb : mayB s = true := decide_eq_true ⟨h1, h2⟩
      rw [hb]
      clear hb
      go_enter Tryd.func79, Tryd.ntmps79
      go_wp2
      go_ret
      exact ⟨rfl, rfl⟩
    · have hb : mayB s = false := decide_eq_false (by omega)
      rw [hb]
      clear hb
      go_enter Tryd.func79, Tryd.ntmps79
      go_wp2
      go_ret
      exact ⟨rfl, rfl⟩
  · have hb : mayB s = false := decide_eq_false (by omega)
    rw [hb]
    clear hb
    go_enter Tryd.func79, Tryd.ntmps79
    go_wp2
    go_ret
    exact ⟨rfl, rfl⟩
/-- Bytes as natural numbers. -/
def natL (l : List Int) : List Nat := l.map Int.toNat
theorem natL_len (l : List Int) : (natL l).length = l.length := List.length_map _
theorem natL_append (a b : List Int) : natL (a ++ b) = natL a ++ natL b := List.map_append
theorem natL_byte {l : List Int} (h : isB l) : ∀ b ∈ natL l, b < 256 := by
  intro b hb
  obtain ⟨x, hx, rfl⟩ := List.mem_map.1 hb
  have := h x hx
  omega
theorem isB.take {l : List Int} (h : isB l) (k : Nat) : isB (l.take k) := fun b hb => h b (List.mem_of_mem_take hb)
theorem isB.get {l : List Int} (h : isB l) {k : Nat} {x : Int} (hx : l[k]? = some x) : 0 ≤ x ∧ x ≤ 255 := h x (List.mem_of_getElem? hx)
theorem take_next {l : List Int} {k : Nat} {x : Int} (hx : l[k]? = some x) : l.take (k + 1) = l.take k ++ [x] := by
  rw [List.take_add_one, hx]; rfl
def moreP (s : Int) (l : List Int) : Int := if mayB s then ((moreN s.toNat (natL l) : Nat) : Int) else 0
def moreE (s : Int) : Int := if mayB s then 0 else 1
/-- The number that goes through the bytes so far. -/
def runN (s : Nat) (l : List Int) : Nat := crc (s ^^^ 4294967295) (natL l)
theorem runN_lt {s : Nat} (hs : s < 4294967296) {l : List Int} (h : isB l) : runN s l < 4294967296 := crc_lt _ (Nat.xor_lt_two_pow (n := 32) hs (by omega)) (natL_byte h)
theorem runN_next {s : Nat} {l : List Int} {k : Nat} {x : Int} (hx : l[k]? = some x) : runN s (l.take (k + 1)) = t8 (runN s (l.take k) ^^^ x.toNat) := by
  unfold runN
  rw [take_next hx, natL_append]
  exact crc_snoc _ _ _
theorem byte32 {x : Int} (h : 0 ≤ x ∧ x ≤ 255) {r : Nat} (hr : r < 4294967296) : bits .xor .u32 (r : Int) x = ((r ^^^ x.toNat : Nat) : Int) := by
  obtain ⟨m, rfl⟩ := Int.eq_ofNat_of_zero_le h.1
  exact xor32 r m hr (by omega)
set_option maxHeartbeats 800000 in
theorem refMore_any (s : Int) (a : Option Addr) (c n : Nat) (l : List Int) (w : World) (ha : InB w a l) (hB : isB l) (hn : l.length = n) (hl : n ≤ 140737488351232) :
    Calls Tryd.prog 64 #[.int .i64 s, .slice a n c] w fun e w' => e = .returned (.tuple #[.int .i64 (moreP s l), .int .i64 (moreE s)]) ∧ w = w' := by
  have HM : Hid (∀ w : World, Calls Tryd.prog 79 #[.int .i64 s] w fun e w' => e = .returned (.bool (mayB s)) ∧ w = w') := Lib.hid (may_any s)
  have HA := Lib.hid (And.intro ha (And.intro hB hn))
  unfold moreP moreE
  clear ha hB hn
  cases hm : mayB s
  · rw [hm] at HM
    clear hm
    go_enter Tryd.func64, Tryd.ntmps64
    go_wp2_with (go_at_call 79; refine (HM.out _).mono ?_; rintro e w' ⟨rfl, rfl⟩)
    go_ret2
    exact ⟨rfl, rfl⟩
  · have hs : 0 ≤ s ∧ s ≤ 4294967295 := of_decide_eq_true hm
    obtain ⟨m, rfl⟩ := Int.eq_ofNat_of_zero_le hs.1
    have hm2 : m < 4294967296 := by omega
    rw [hm] at HM
    clear hm hs
    have HX := Lib.hid (xorF m hm2)
    go_enter Tryd.func64, Tryd.ntmps64
    go_wp2_with (go_at_call 79; refine (HM.out _).mono ?_; rintro e w' ⟨rfl, rfl⟩)
    go_loop [7, 8] (fun u i => ∃ k : Nat, k ≤ n ∧ i = .int .i64 k ∧ u = .int .u32 (runN m (l.take k) : Nat)) (fun _ i => n - (intOf i).toNat)
    case atStart => exact ⟨0, by omega, rfl, by rw [HX.out]; rfl⟩
    case round =>
      obtain ⟨k, hk, rfl, rfl⟩ := hrel
      by_cases hlt : k < n
      · obtain ⟨b, o, x, rfl, hx, x0⟩ := HA.out.1.one (i := k) (by rw [HA.out.2.2]; exact hlt)
        have hb := HA.out.2.1.get hx
        have hr := runN_lt hm2 (HA.out.2.1.take k)
        have HR := Lib.hid (runN_next (s := m) hx)
        have HC := Lib.hid (turns_any (runN m (l.take k) ^^^ x.toNat) 8 (Nat.xor_lt_two_pow (n := 32) hr (by omega)) (by omega))
        have HY := Lib.hid (byte32 hb hr)
        generalize runN m (l.take k) = r at *
        clear hx
        go_wp2_with (go_at_call 80; rw [HY.out]; refine (HC.out _).mono ?_; rintro e w' ⟨rfl, rfl⟩)
        go_round
        case rel => exact ⟨k + 1, by omega, by go_num, by rw [HR.out, t8_def]⟩
        case measure => simp [intOf]; omega
      · have hkn : k = n := by omega
        subst hkn
        have hr := runN_lt hm2 (HA.out.2.1.take k)
        have HY := Lib.hid (wrapF (runN m (l.take k)) hr)
        have HT := Lib.hid (show l.take k = l from List.take_of_length_le (by rw [HA.out.2.2]; omega))
        clear hr
        go_wp2
        rw [HY.out, HT.out]
        go_ret2
        exact ⟨rfl, rfl⟩
end Go.Proofs.YtophhnolnlbecaaDoor
namespace Go.Proofs.YtophhnolnlbecaaDoor
open Go.RowKit
set_option maxRecDepth 100000

/-- What follows a page's sum. -/
def restL (number kind : Int) (body : List Int) : List Int := leB 4 number ++ (leB 1 kind ++ (leB 2 (body.length : Int) ++ (body ++ List.replicate (4085 - body.length) 0)))
def okG (number kind : Int) (n : Nat) : Bool := decide (0 ≤ number ∧ number < 65536) && (decide (1 ≤ kind ∧ kind ≤ 255) && decide (n ≤ 4085))
def pageL (number kind : Int) (body : List Int) : List Int := leB 4 (moreP 0 (restL number kind body)) ++ restL number kind body
def makeL (number kind : Int) (body : List Int) : List Int := if okG number kind body.length then pageL number kind body else []
def makeE (number kind : Int) (n : Nat) : Int := if okG number kind n then 0 else 1
theorem restL_len {number kind : Int} {body : List Int} (h : body.length ≤ 4085) : (restL number kind body).length = 4092 := by
  unfold restL
  simp only [List.length_append, leB_len, List.length_replicate]
  omega
theorem pageL_len {number kind : Int} {body : List Int} (h : body.length ≤ 4085) : (pageL number kind body).length = 4096 := by
  unfold pageL
  rw [List.length_append, leB_len, restL_len h]
theorem okG_yes {number kind : Int} {n : Nat} (h : okG number kind n = true) : 0 ≤ number ∧ number < 65536 ∧ 1 ≤ kind ∧ kind ≤ 255 ∧ n ≤ 4085 := by
  unfold okG at h
  simp at h
  omega
theorem okG_no {number kind : Int} {n : Nat} (h : okG number kind n = false) : number < 0 ∨ 65536 ≤ number ∨ kind < 1 ∨ 255 < kind ∨ 4085 < n := by
  unfold okG at h
  simp at h
  omega
theorem leB_byte (k : Nat) (n : Int) : isB (leB k n) := by
  induction k generalizing n with
  | zero => exact fun b hb => by cases hb
  | succ k ih =>
    intro b hb
    rw [leB] at hb
    rcases List.mem_cons.1 hb with rfl | hb
    · omega
    · exact ih _ b hb
theorem isB.append2 {a b : List Int} (ha : isB a) (hb : isB b) : isB (a ++ b) := fun x hx => by
  rcases List.mem_append.1 hx with h | h
  · exact ha x h
  · exact hb x h
theorem isB_zeros (n : Nat) : isB (List.replicate n 0) := fun b hb => by have := List.eq_of_mem_replicate hb; omega
theorem restL_byte {number kind : Int} {body : List Int} (h : isB body) : isB (restL number kind body) := by
  unfold restL
  exact (leB_byte _ _).append2 ((leB_byte _ _).append2 ((leB_byte _ _).append2 (h.append2 (isB_zeros _))))
theorem pageL_byte {number kind : Int} {body : List Int} (h : isB body) : isB (pageL number kind body) := (leB_byte _ _).append2 (restL_byte h)
theorem numL_ok {n : Int} {s : Nat} (h1 : 1 ≤ s) (h8 : s ≤ 8) (h0 : 0 ≤ n) (hn : n < 256 ^ s) : numL n s = leB s n := by
  have hk : okN n s = true := decide_eq_true ⟨by omega, by omega, h0, by rw [Int.toNat_natCast]; exact Int.ediv_eq_zero_of_lt h0 hn⟩
  rw [numL, hk]
  rfl
end Go.Proofs.YtophhnolnlbecaaDoor
namespace Go.Proofs.YtophhnolnlbecaaDoor

/-- What a row of what becomes of each bit makes of a number. -/
def timesN : List Nat → Nat → Nat
  | [], _ => 0
  | x :: m, r => (if r % 2 = 1 then x else 0) ^^^ timesN m (r / 2)
theorem timesN_snoc (m : List Nat) (x r : Nat) : timesN (m ++ [x]) r = timesN m r ^^^ (if r / 2 ^ m.length % 2 = 1 then x else 0) := by
  induction m generalizing r with
  | nil => simp [timesN]
  | cons y m ih =>
    rw [List.cons_append, timesN, timesN, ih, Nat.xor_assoc, List.length_cons, Nat.pow_succ, Nat.mul_comm, Nat.div_div_eq_div_mul]
theorem timesN_next {m : List Nat} {k x r : Nat} (hx : m[k]? = some x) : timesN (m.take (k + 1)) r = timesN (m.take k) r ^^^ (if r / 2 ^ k % 2 = 1 then x else 0) := by
  have hk : k < m.length := (List.getElem?_eq_some_iff.1 hx).1
  rw [List.take_add_one, hx]
  have := timesN_snoc (m.take k) x r
  rw [List.length_take, Nat.min_eq_left (by omega)] at this
  exact this
theorem half_xor (r : Nat) : r % 2 ^^^ 2 * (r / 2) = r := by
  have h1 : (r % 2 ^^^ 2 * (r / 2)) / 2 = r / 2 := by
    rw [Nat.xor_div_two]
    have e1 : r % 2 / 2 = 0 := by omega
    have e2 : 2 * (r / 2) / 2 = r / 2 := by omega
    rw [e1, e2, Nat.zero_xor]
  have h2 : (r % 2 ^^^ 2 * (r / 2)) % 2 = r % 2 := by
    have h := @Nat.xor_mod_two_eq_one (r % 2) (2 * (r / 2))
    have e1 : r % 2 % 2 = r % 2 := by omega
    have e2 : ¬ (2 * (r / 2)) % 2 = 1 := by omega
    rw [e1] at h
    simp only [e2, iff_false, Decidable.not_not] at h
    omega
  omega
theorem pow_xor (k a b : Nat) : 2 ^ k * (a ^^^ b) = 2 ^ k * a ^^^ 2 ^ k * b := by
  have := @Nat.shiftLeft_xor_distrib k a b
  simp only [Nat.shiftLeft_eq] at this
  rw [Nat.mul_comm, this, Nat.mul_comm a, Nat.mul_comm b]
theorem times_is {L : Nat → Nat} (h0 : L 0 = 0) (hL : ∀ a b, L (a ^^^ b) = L a ^^^ L b) (n : Nat) : ∀ k r, r < 2 ^ n → timesN ((List.range' k n).map fun i => L (2 ^ i)) r = L (2 ^ k * r) := by
  induction n with
  | zero => intro k r hr; have : r = 0 := by omega
            subst this; simp [timesN, h0]
  | succ n ih =>
    intro k r hr
    rw [List.range'_succ, List.map_cons, timesN, ih (k + 1) (r / 2) (by rw [Nat.pow_succ] at hr; omega)]
    have e : L (2 ^ k * r) = L (2 ^ k * (r % 2)) ^^^ L (2 ^ (k + 1) * (r / 2)) := by
      conv => lhs; rw [← half_xor r]
      rw [pow_xor, hL, Nat.pow_succ, Nat.mul_assoc]
    rw [e]
    by_cases h : r % 2 = 1
    · rw [if_pos h, h, Nat.mul_one]
    · have h2 : r % 2 = 0 := by omega
      rw [if_neg h, h2, Nat.mul_zero, h0]
/-- What so many times eight turns make of each bit. -/
def rowN (n : Nat) : List Nat := (List.range' 0 32).map fun i => t8N n (2 ^ i)
theorem rowN_len (n : Nat) : (rowN n).length = 32 := by rw [rowN, List.length_map, List.length_range']
theorem rowN_get (n : Nat) {i : Nat} (hi : i < 32) : (rowN n)[i]? = some (t8N n (2 ^ i)) := by
  rw [rowN, List.getElem?_map, List.getElem?_range' (by omega)]; simp
theorem rowN_times (n : Nat) {r : Nat} (hr : r < 4294967296) : timesN (rowN n) r = t8N n r := by
  rw [rowN, times_is (t8N_zero n) (t8N_xor n) 32 0 r hr, Nat.pow_zero, Nat.one_mul]
theorem pow_lt32 {i : Nat} (hi : i < 32) : 2 ^ i < 4294967296 := Nat.pow_lt_pow_right (by decide) hi
theorem rowN_lt (n : Nat) : ∀ x ∈ rowN n, x < 4294967296 := by
  intro x hx
  obtain ⟨i, hi, rfl⟩ := List.mem_map.1 hx
  have := List.mem_range'_1.1 hi
  exact t8N_lt n (pow_lt32 (by omega))
theorem rowN_one : rowN 1 = (List.range' 0 32).map fun i => t8 (2 ^ i) := rfl
theorem rowN_next (n : Nat) : rowN (n + n) = (rowN n).map fun x => timesN (rowN n) x := by
  show (List.range' 0 32).map (fun i => t8N (n + n) (2 ^ i)) = ((List.range' 0 32).map fun i => t8N n (2 ^ i)).map fun x => timesN (rowN n) x
  rw [List.map_map]
  refine List.map_congr_left fun i hi => ?_
  have := List.mem_range'_1.1 hi
  rw [Function.comp_apply, rowN_times n (t8N_lt n (pow_lt32 (by omega))), t8N_add]
theorem take_map_next {α β : Type} {f : α → β} {l : List α} {k : Nat} {x : α} (hx : l[k]? = some x) : (l.take (k + 1)).map f = (l.take k).map f ++ [f x] := by
  rw [List.take_add_one, hx, List.map_append]; rfl
/-- A round of squaring. -/
theorem square_odd {n0 k x : Nat} (h : n0 / 2 ^ k % 2 = 1) : t8N (2 ^ k) (t8N (n0 % 2 ^ k) x) = t8N (n0 % 2 ^ (k + 1)) x := by
  rw [← t8N_add]
  congr 1
  have e := Nat.mod_pow_succ (x := n0) (b := 2) (k := k)
  rw [e, h, Nat.mul_one]
theorem square_even {n0 k x : Nat} (h : ¬ n0 / 2 ^ k % 2 = 1) : t8N (n0 % 2 ^ k) x = t8N (n0 % 2 ^ (k + 1)) x := by
  congr 1
  have e := Nat.mod_pow_succ (x := n0) (b := 2) (k := k)
  have h2 : n0 / 2 ^ k % 2 = 0 := by omega
  rw [e, h2, Nat.mul_zero, Nat.add_zero]
theorem square_end {n0 k x : Nat} (h : n0 / 2 ^ k = 0) : t8N (n0 % 2 ^ k) x = t8N n0 x := by
  have h2 : n0 < 2 ^ k := by
    rcases Nat.lt_or_ge n0 (2 ^ k) with h2 | h2
    · exact h2
    · have := Nat.div_pos h2 (Nat.two_pow_pos k); omega
  rw [Nat.mod_eq_of_lt h2]
theorem square_half (n0 k : Nat) : n0 / 2 ^ k / 2 = n0 / 2 ^ (k + 1) := by rw [Nat.div_div_eq_div_mul, Nat.pow_succ]
end Go.Proofs.YtophhnolnlbecaaDoor
