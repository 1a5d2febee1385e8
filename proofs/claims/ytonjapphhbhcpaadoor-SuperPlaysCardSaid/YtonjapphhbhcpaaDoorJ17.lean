/- A number's lowest bit taken away: plain words. Four turns at once, by a table of sixteen numbers: plain words and a program that goes by it (a trial of our own; the landed program may go otherwise). The program's own turns: eight at once by a table. The program's own Number: its contract. The program's own Read: its contract. No statement is proved here. -/
import Derived.Test.YtonjapphhbhcpaaDoorJ15
import Derived.Lib.TrailingZeros
import Derived.Test.YtonjapphhbhcpaaDoorJ20
import Derived.Lib.LaidTab
namespace Go.Proofs.YtonjapphhbhcpaaDoor

theorem low_core (k m : Nat) : (2 ^ k * (2 * m + 1)) &&& (2 ^ k * (2 * m + 1) - 1) = 2 ^ k * (2 * m) := by
  have hp := Nat.two_pow_pos k
  have e2 : 2 ^ k * (2 * m + 1) - 1 = 2 ^ k * (2 * m) + (2 ^ k - 1) := by rw [Nat.mul_add, Nat.mul_one]; omega
  rw [e2]
  have e3 := Nat.two_pow_add_eq_or_of_lt (i := k) (show 2 ^ k - 1 < 2 ^ k by omega) (2 * m)
  rw [e3]
  apply Nat.eq_of_testBit_eq
  intro i
  rw [Nat.testBit_and, Nat.testBit_or, Nat.testBit_two_pow_mul, Nat.testBit_two_pow_mul, Nat.testBit_two_pow_sub_one]
  by_cases hik : k ≤ i
  · obtain ⟨j, rfl⟩ : ∃ j, i = k + j := ⟨i - k, by omega⟩
    have e : k + j - k = j := by omega
    simp only [hik, decide_true, Bool.true_and, e]
    have hn : decide (k + j < k) = false := by simp
    rw [hn, Bool.or_false]
    cases j with
    | zero => simp [Nat.testBit_zero]
    | succ j =>
      rw [Nat.testBit_succ, Nat.testBit_succ]
      have d1 : (2 * m + 1) / 2 = m := by omega
      have d2 : 2 * m / 2 = m := by omega
      rw [d1, d2, Bool.and_self]
  · simp [hik]
theorem low_xor (k m : Nat) : 2 ^ k * (2 * m) ^^^ 2 ^ k = 2 ^ k * (2 * m + 1) := by
  apply Nat.eq_of_testBit_eq
  intro i
  rw [Nat.testBit_xor, Nat.testBit_two_pow_mul, Nat.testBit_two_pow_mul, Nat.testBit_two_pow]
  by_cases hik : k ≤ i
  · obtain ⟨j, rfl⟩ : ∃ j, i = k + j := ⟨i - k, by omega⟩
    have e : k + j - k = j := by omega
    simp only [hik, decide_true, Bool.true_and, e]
    cases j with
    | zero => simp [Nat.testBit_zero]
    | succ j =>
      rw [Nat.testBit_succ, Nat.testBit_succ]
      have d1 : (2 * m + 1) / 2 = m := by omega
      have d2 : 2 * m / 2 = m := by omega
      have hn : decide (k = k + (j + 1)) = false := by simp
      rw [d1, d2, hn, Bool.xor_false]
  · have hn : decide (k = i) = false := by simp; omega
    simp [hik, hn]
/-- The lowest bit of a number above 0. -/
theorem low_bit {r : Nat} (h0 : r ≠ 0) (hr : r < 4294967296) : Lib.ctz 32 r < 32 ∧ (r &&& (r - 1)) < r ∧ (r &&& (r - 1)) ^^^ 2 ^ Lib.ctz 32 r = r := by
  obtain ⟨m, hm, hk⟩ := Lib.ctzFrom_spec 32 r (by omega) hr
  have e : Lib.ctz 32 r = Lib.ctzFrom 32 r := by simp [Lib.ctz, h0]
  rw [e]
  generalize Lib.ctzFrom 32 r = k at *
  subst hm
  have hp := Nat.two_pow_pos k
  rw [low_core, low_xor]
  refine ⟨hk, ?_, rfl⟩
  rw [Nat.mul_add]
  omega
/-- What turns make of a number, by its lowest bit. -/
theorem t8N_low (n : Nat) {r : Nat} (h0 : r ≠ 0) (hr : r < 4294967296) : t8N n (2 ^ Lib.ctz 32 r) ^^^ t8N n (r &&& (r - 1)) = t8N n r := by
  conv => rhs; rw [← (low_bit h0 hr).2.2, t8N_xor]
  rw [Nat.xor_comm]
end Go.Proofs.YtonjapphhbhcpaaDoor
namespace Go.Proofs.YtonjapphhbhcpaaDoor
open Go.RowKit
set_option maxRecDepth 100000

/-- What four turns make of each number below sixteen. -/
def nibs : List Nat := [0, 498536548, 997073096, 651767980, 1994146192, 1802195444, 1303535960, 1342533948, 3988292384, 4027552580, 3604390888, 3412177804, 2607071920, 2262029012, 2685067896, 3183342108]
theorem nibs_all : ∀ i, i < 16 → nibs[i]? = some (turnsN 4 i) := by
  intro i hi
  have h : (List.range 16).all (fun i => nibs[i]? == some (turnsN 4 i)) = true := by decide +kernel
  have := List.all_eq_true.1 h i (List.mem_range.2 hi)
  simpa using this
theorem four_up (n : Nat) : turnsN 4 (16 * n) = n := by
  have e : 16 * n = 2 * (2 * (2 * (2 * n))) := by omega
  rw [e]
  simp only [turnsN, turn_double]
theorem split16 (r : Nat) : r % 16 ^^^ 16 * (r / 16) = r := by
  have h : r = 2 ^ 4 * (r / 16) + r % 16 := by omega
  have h2 := Nat.two_pow_add_eq_or_of_lt (i := 4) (show r % 16 < 2 ^ 4 by omega) (r / 16)
  have h3 : 2 ^ 4 * (r / 16) ||| r % 16 = 2 ^ 4 * (r / 16) ^^^ r % 16 := by
    apply Nat.eq_of_testBit_eq
    intro i
    rw [Nat.testBit_or, Nat.testBit_xor]
    by_cases hi : i < 4
    · rw [Nat.testBit_two_pow_mul]; simp [show ¬ 4 ≤ i by omega]
    · have : (r % 16).testBit i = false := Nat.testBit_lt_two_pow (Nat.lt_of_lt_of_le (show r % 16 < 2 ^ 4 by omega) (Nat.pow_le_pow_right (by decide) (by omega)))
      rw [this]; simp
  rw [Nat.xor_comm]
  have e : 16 * (r / 16) = 2 ^ 4 * (r / 16) := rfl
  rw [e, ← h3, ← h2, ← h]
theorem nib_step (r : Nat) : r / 16 ^^^ turnsN 4 (r % 16) = turnsN 4 r := by
  conv => rhs; rw [← split16 r, turnsN_xor, four_up]
  rw [Nat.xor_comm]
theorem eight_nibs (r : Nat) : turnsN 4 (turnsN 4 r) = t8 r := by rw [← turnsN_add, t8_def]
theorem and15 (r : Nat) (hr : r < 4294967296) : bits .and .u32 (r : Int) 15 = ((r % 16 : Nat) : Int) := by
  have := u32_and (r : Int) 15 (by omega) (by omega) (by omega) (by omega)
  rw [this]
  have h := Nat.and_two_pow_sub_one_eq_mod r 4
  simpa using congrArg Int.ofNat h
end Go.Proofs.YtonjapphhbhcpaaDoor
namespace Go.Proofs.YtonjapphhbhcpaaDoor
open Go.RowKit
set_option maxRecDepth 100000

/-- The table of four turns, as it lies. -/
def Tab16 (w : World) : Prop := ∀ i, i < 16 → w.cell? ⟨1, i, none⟩ = some (.int .u32 (turnsN 4 i : Nat))
/-- Four turns by the table. -/
theorem four_step {r : Nat} (hr : r < 4294967296) : bits .xor .u32 ((r : Int) / 16) ((turnsN 4 (r % 16) : Nat) : Int) = ((turnsN 4 r : Nat) : Int) := by
  have q1 := turnsN_lt 4 (show r % 16 < 4294967296 by omega)
  have hS1 := xor32 (r / 16) (turnsN 4 (r % 16)) (by omega) q1
  rw [nib_step] at hS1
  exact hS1
set_option maxHeartbeats 2000000 in
theorem eight_any (r : Nat) (hr : r < 4294967296) (w : World) (ht : Tab16 w) :
    Calls Tryd.prog 87 #[.int .u32 (r : Int)] w fun e w' => e = .returned (.int .u32 (t8 r : Nat)) ∧ w = w' := by
  have HT := Lib.hid ht
  clear ht
  go_enter Tryd.func87, Tryd.ntmps87
  go_wp2
  go_loop [0, 3] (fun u i => ∃ (k x : Nat), k ≤ 2 ∧ i = .int .i64 k ∧ u = .int .u32 x ∧ x < 4294967296 ∧ Hid (x = turnsN (4 * k) r)) (fun _ i => 2 - (intOf i).toNat)
  case atStart => exact ⟨0, r, by omega, rfl, rfl, hr, rfl⟩
  case round =>
    obtain ⟨k, x, hk, rfl, rfl, hx, HS⟩ := hrel
    by_cases hlt : k < 2
    · have hA := and15 x hx
      have hF := four_step hx
      have hxl := turnsN_lt 4 hx
      obtain ⟨i, hi⟩ : ∃ i, i = x % 16 := ⟨_, rfl⟩
      have hi16 : i < 16 := by omega
      have c1 := HT.out i hi16
      rw [← hi] at hA hF
      clear hi
      have HN : Hid (turnsN 4 x = turnsN (4 * (k + 1)) r) := Lib.hid (by rw [HS, Nat.mul_add, Nat.mul_one, turnsN_add])
      generalize turnsN 4 i = y at *
      generalize turnsN 4 x = z at *
      go_wp2
      go_round
      case rel => exact ⟨k + 1, z, by omega, by go_num, rfl, hxl, HN⟩
      case measure => simp [intOf]; omega
    · have hk2 : k = 2 := by omega
      subst hk2
      go_wp2
      go_ret
      exact ⟨ret_int (by rw [HS, t8_def]), rfl⟩
set_option maxHeartbeats 2000000 in
theorem more_any (m : Nat) (hm2 : m < 4294967296) (a : Option Addr) (c n : Nat) (l : List Int) (w : World) (ht : Tab16 w) (ha : InB w a l) (hB : isB l) (hn : l.length = n) (hl : n ≤ 140737488351232) :
    Calls Tryd.prog 76 #[.int .i64 (m : Int), .slice a n c] w fun e w' => e = .returned (.int .i64 (moreN m (natL l) : Nat)) ∧ w = w' := by
  have HA := Lib.hid (And.intro ha (And.intro hB (And.intro hn ht)))
  clear ha hB hn ht
  have HX := Lib.hid (xorF m hm2)
  go_enter Tryd.func76, Tryd.ntmps76
  go_wp2
  go_loop [5, 13] (fun u i => ∃ k : Nat, k ≤ n ∧ i = .int .i64 k ∧ u = .int .u32 (runN m (l.take k) : Nat)) (fun _ i => n - (intOf i).toNat)
  case atStart => exact ⟨0, by omega, rfl, by rw [HX.out]; rfl⟩
  case round =>
    obtain ⟨k, hk, rfl, rfl⟩ := hrel
    by_cases hlt : k < n
    · obtain ⟨b, o, x, rfl, hx, x0⟩ := HA.out.1.one (i := k) (by rw [HA.out.2.2.1]; exact hlt)
      have hb := HA.out.2.1.at' hx
      have hr := runN_lt hm2 (HA.out.2.1.take k)
      have HR := Lib.hid (runN_next (s := m) hx)
      obtain ⟨r1, hr1⟩ : ∃ r1, r1 = runN m (l.take k) ^^^ x.toNat := ⟨_, rfl⟩
      have hr1l : r1 < 4294967296 := by rw [hr1]; exact Nat.xor_lt_two_pow (n := 32) hr (by omega)
      have hY := byte32 hb hr
      rw [← hr1] at hY
      have HE := Lib.hid (eight_any r1 hr1l w HA.out.2.2.2)
      have HF : Hid (runN m (l.take (k + 1)) = t8 r1) := Lib.hid (by rw [HR.out, ← hr1])
      have hr2l : t8 r1 < 4294967296 := t8_lt hr1l
      generalize t8 r1 = r2 at *
      generalize runN m (l.take k) = r at *
      clear hx hr1 HR
      go_wp2_with (go_at_call 87; refine HE.out.mono ?_; rintro e w' ⟨rfl, rfl⟩)
      go_round
      case rel => exact ⟨k + 1, by omega, by go_num, by rw [HF.out]⟩
      case measure => simp [intOf]; omega
    · have hkn : k = n := by omega
      subst hkn
      have hr := runN_lt hm2 (HA.out.2.1.take k)
      have HY := Lib.hid (wrapF (runN m (l.take k)) hr)
      have HT := Lib.hid (show l.take k = l from List.take_of_length_le (by rw [HA.out.2.2.1]; omega))
      clear hr
      go_wp2
      rw [HY.out, HT.out]
      go_ret
      exact ⟨rfl, rfl⟩
theorem more0_any (a : Option Addr) (c n : Nat) (l : List Int) (w : World) (ht : Tab16 w) (ha : InB w a l) (hB : isB l) (hn : l.length = n) (hl : n ≤ 140737488351232) :
    Calls Tryd.prog 54 #[.slice a n c] w fun e w' => e = .returned (.int .i64 (moreP 0 l)) ∧ w = w' := by
  have HM := Lib.hid (more_any 0 (by omega) a c n l w ht ha hB hn hl)
  have HP := Lib.hid (show ((moreN 0 (natL l) : Nat) : Int) = moreP 0 l from rfl)
  rw [HP.out] at HM
  clear ht ha hB hn HP
  go_enter Tryd.func54, Tryd.ntmps54
  go_wp2_with (go_at_call 76; refine HM.out.mono ?_; rintro e w' ⟨rfl, rfl⟩)
  go_ret
  exact ⟨rfl, rfl⟩
end Go.Proofs.YtonjapphhbhcpaaDoor
namespace Go.Proofs.YtonjapphhbhcpaaDoor
open Go.RowKit
set_option maxRecDepth 100000

/-- The row so far: the lowest bytes, and what was there. -/
def FilledV (m : Int) (k s : Nat) (xs : List Value) : Prop := ∃ rest, rest.length + k = s ∧ xs = btV (leB k m) ++ rest
theorem FilledV.next {m : Int} {k s : Nat} {xs : List Value} (h : FilledV m k s xs) (hk : k < s) : FilledV m (k + 1) s (xs.set k (.int .u8 (m / 256 ^ k % 256))) := by
  obtain ⟨rest, hr, rfl⟩ := h
  cases rest with
  | nil => simp at hr; omega
  | cons y rest =>
    refine ⟨rest, by simp at hr; omega, ?_⟩
    have e : (btV (leB k m)).length = k := by rw [btV_len, leB_len]
    rw [List.set_append_right _ _ (by omega), e, Nat.sub_self, List.set_cons_zero, leB_snoc, btV_append, List.append_assoc]
    rfl
theorem FilledV.all {m : Int} {s : Nat} {xs : List Value} (h : FilledV m s s xs) : xs = btV (leB s m) := by
  obtain ⟨rest, hr, rfl⟩ := h
  have : rest = [] := List.eq_nil_of_length_eq_zero (by omega)
  subst this
  rw [List.append_nil]
theorem FilledV.len {m : Int} {k s : Nat} {xs : List Value} (h : FilledV m k s xs) : xs.length = s := by
  obtain ⟨rest, hr, rfl⟩ := h
  rw [List.length_append, btV_len, leB_len]; omega
theorem isSize_any (s : Int) (w : World) : Calls Tryd.prog 77 #[.int .i64 s] w fun e w' => e = .returned (.bool (decide (1 ≤ s ∧ s ≤ 8))) ∧ w = w' := by
  by_cases h1 : 1 ≤ s
  · by_cases h2 : s ≤ 8
    · rw [decide_eq_true (show 1 ≤ s ∧ s ≤ 8 from ⟨h1, h2⟩)]
      go_enter Tryd.func77, Tryd.ntmps77
      go_wp2
      go_ret
      exact ⟨rfl, rfl⟩
    · rw [decide_eq_false (show ¬ (1 ≤ s ∧ s ≤ 8) by omega)]
      go_enter Tryd.func77, Tryd.ntmps77
      go_wp2
      go_ret
      exact ⟨rfl, rfl⟩
  · rw [decide_eq_false (show ¬ (1 ≤ s ∧ s ≤ 8) by omega)]
    go_enter Tryd.func77, Tryd.ntmps77
    go_wp2
    go_ret
    exact ⟨rfl, rfl⟩
theorem pow8 (k : Nat) : (2 : Int) ^ (8 * k) = 256 ^ k := by rw [Int.pow_mul]; rfl
set_option maxHeartbeats 2000000 in
theorem pnumber_any (n size : Int) (hn : okInt n) (hs : okInt size) (w : World) : Calls Tryd.prog 56 #[.int .i64 n, .int .i64 size] w (NumTo n size w) := by
  have HS := Lib.hid (isSize_any size)
  unfold okInt at hn hs
  by_cases h1 : 1 ≤ size ∧ size ≤ 8
  · rw [decide_eq_true h1] at HS
    by_cases h3 : n < 0
    · have hk : okN n size = false := decide_eq_false (by omega)
      have HE : NumTo n size w (.returned (.tuple #[.slice none 0 0, .int .i64 1])) w := ⟨_, by rw [numE, hk]; rfl, by rw [numL, hk]; exact OwnB.nil _ _, Below.refl _ _⟩
      clear hk
      have HE := Lib.hid HE
      go_enter Tryd.func56, Tryd.ntmps56
      go_wp2_with (go_at_call 77; refine (HS.out _).mono ?_; rintro e w' ⟨rfl, rfl⟩)
      go_ret2
      exact HE.out
    · obtain ⟨s, rfl⟩ := Int.eq_ofNat_of_zero_le (show 0 ≤ size by omega)
      obtain ⟨m, rfl⟩ := Int.eq_ofNat_of_zero_le (show 0 ≤ n by omega)
      have hs1 : 1 ≤ s := by omega
      have hs8 : s ≤ 8 := by omega
      have hd : decide ((m : Int) < 0) = false := decide_eq_false (by omega)
      by_cases hz : (m : Int) / 2 ^ (8 * s) = 0
      · have hz' : ((m : Int) / 2 ^ (8 * s) != 0) = false := by rw [hz]; rfl
        have hkk : okN m s = true := decide_eq_true (by rw [Int.toNat_natCast, ← pow8, hz]; omega)
        have HE : Hid (numL m s = leB s m ∧ numE m s = 0) := Lib.hid ⟨by rw [numL, hkk]; rfl, by rw [numE, hkk]; rfl⟩
        obtain ⟨cur, hcur, hmk⟩ := make_any (P := Tryd.prog) 24 5 _ 1 1 Tryd.underlying24 info_byte s s (by omega) (by omega) (by omega)
        obtain ⟨cl, hcl⟩ : ∃ cl : List Value, cur = cl.toArray := ⟨cur.toList, by simp⟩
        subst hcl
        have hcs : cl.length = s := by simpa using hcur
        have hm0 : FilledV m 0 s cl := ⟨cl, by omega, rfl⟩
        have own0 : (w.alloc (.cells cl.toArray 5)).ownsRow w.heap.size 5 1 (.slice (some ⟨w.heap.size, 0, none⟩) s s) s cl :=
          ⟨by omega, .inr ⟨w.heap.size, s, _, rfl, Nat.le_refl _, heap_alloc_new w _, Nat.le_refl _, by unfold maxLen; omega, by simp [hcs], by rw [List.take_of_length_le (by simp [hcs])]⟩⟩
        have H0 := Lib.hid (And.intro hm0 (And.intro own0 (below1 w (.cells cl.toArray 5))))
        clear hm0 own0 hz hkk hcur hcs
        go_enter Tryd.func56, Tryd.ntmps56
        go_wp2_with (go_at_call 77; refine (HS.out _).mono ?_; rintro e w' ⟨rfl, rfl⟩)
        generalize w.alloc (.cells cl.toArray 5) = w0 at *
        clear hmk hz'
        go_loopw [26] (fun i wr => ∃ (k : Nat) (xs : List Value), k ≤ s ∧ i = .int .i64 (k : Int) ∧ Hid (FilledV m k s xs ∧ wr.ownsRow w.heap.size 5 1 (.slice (some ⟨w.heap.size, 0, none⟩) s s) s xs ∧ Below w.heap.size w wr)) (fun i _ => s - (intOf i).toNat)
        case atStart => exact ⟨0, _, by omega, rfl, H0⟩
        case round =>
          clear H0
          obtain ⟨k, xs, hk, rfl, HK⟩ := hrel
          by_cases hlt : k < s
          · have c0 : ∃ y, wr.cell? ⟨w.heap.size, k, none⟩ = some y := by
              have := World.ownsRow.cellAt HK.2.1 k (by omega)
              rw [this]
              exact ⟨_, List.getElem?_eq_getElem (by have := HK.1.len; omega)⟩
            obtain ⟨y, hy⟩ := c0
            have hf := World.ownsRow.frozenAt HK.2.1 k
            have HN := Lib.hid (World.ownsRow.stored HK.2.1 k (.int .u8 ((m : Int) / 256 ^ k % 256)))
            have HP := Lib.hid (pow8 k)
            go_wp2_with fail
            rw [HP.out]
            go_roundw
            case rel => exact ⟨k + 1, _, by omega, by go_num, Lib.hid ⟨HK.1.next hlt, HN.out.1, HK.2.2.setCell (Nat.le_refl _) _⟩⟩
            case measure => simp [intOf]; omega
          · have hks : k = s := by omega
            subst hks
            have HX := Lib.hid HK.1.all
            go_wp2_with fail
            go_ret2
            refine ⟨.slice (some ⟨w.heap.size, 0, none⟩) k k, by rw [HE.out.2]; rfl, ?_, HK.2.2⟩
            rw [HE.out.1]
            have h := HK.2.1
            rw [HX.out] at h
            unfold OwnB
            rw [leB_len]
            exact h
      · have hz' : ((m : Int) / 2 ^ (8 * s) != 0) = true := by simpa using hz
        have hkk : okN m s = false := decide_eq_false (by rw [Int.toNat_natCast, ← pow8]; omega)
        have HE : NumTo m s w (.returned (.tuple #[.slice none 0 0, .int .i64 1])) w := ⟨_, by rw [numE, hkk]; rfl, by rw [numL, hkk]; exact OwnB.nil _ _, Below.refl _ _⟩
        clear hkk hz
        have HE := Lib.hid HE
        go_enter Tryd.func56, Tryd.ntmps56
        go_wp2_with (go_at_call 77; refine (HS.out _).mono ?_; rintro e w' ⟨rfl, rfl⟩)
        go_ret2
        exact HE.out
  · rw [decide_eq_false h1] at HS
    have hk : okN n size = false := decide_eq_false (by omega)
    have HE : NumTo n size w (.returned (.tuple #[.slice none 0 0, .int .i64 1])) w := ⟨_, by rw [numE, hk]; rfl, by rw [numL, hk]; exact OwnB.nil _ _, Below.refl _ _⟩
    clear hk
    have HE := Lib.hid HE
    go_enter Tryd.func56, Tryd.ntmps56
    go_wp2_with (go_at_call 77; refine (HS.out _).mono ?_; rintro e w' ⟨rfl, rfl⟩)
    go_ret2
    exact HE.out
end Go.Proofs.YtonjapphhbhcpaaDoor
namespace Go.Proofs.YtonjapphhbhcpaaDoor
open Go.RowKit
set_option maxRecDepth 100000

theorem or_next {x y j : Nat} (hj : j ≤ 7) (hx : x < 256 ^ j) (hy : y < 256) : bits .or .u64 (x : Int) (IntKind.u64.wrap ((y : Int) * 2 ^ (8 * j))) = ((x + 256 ^ j * y : Nat) : Int) ∧ x + 256 ^ j * y < 18446744073709551616 := by
  have hp : 256 ^ j ≤ 72057594037927936 := Nat.le_trans (Nat.pow_le_pow_right (by decide) hj) (by decide)
  have hp2 : (2 : Nat) ^ (8 * j) = 256 ^ j := by rw [Nat.pow_mul]
  have hm : 256 ^ j * y ≤ 256 ^ j * 255 := Nat.mul_le_mul_left _ (by omega)
  have e1 : (y : Int) * 2 ^ (8 * j) = ((256 ^ j * y : Nat) : Int) := by
    have : ((2 : Int) ^ (8 * j)) = ((2 ^ (8 * j) : Nat) : Int) := by rw [Int.natCast_pow]; rfl
    rw [this, hp2, ← Int.natCast_mul, Nat.mul_comm]
  have e2 : IntKind.u64.wrap (((256 ^ j * y : Nat) : Int)) = ((256 ^ j * y : Nat) : Int) := by
    rw [IntKind.wrap_u64]
    generalize 256 ^ j * y = z at *
    omega
  have e3 := Nat.two_pow_add_eq_or_of_lt (i := 8 * j) (show x < 2 ^ (8 * j) by rw [hp2]; exact hx) y
  rw [hp2] at e3
  rw [e1, e2, u64_or_nat x _ (by omega) (by generalize 256 ^ j * y = z at *; omega), Nat.or_comm, ← e3]
  generalize 256 ^ j * y = z at *
  refine ⟨by omega, ?_⟩
  omega
theorem valB_next {l : List Int} {j : Nat} {y : Int} (hy : l[j]? = some y) : valB (l.take (j + 1)) = valB (l.take j) + 256 ^ j * y := by
  have hl := lt_of_get hy
  rw [take_next hy, valB_append, List.length_take, Nat.min_eq_left (by omega)]
  simp [valB]
set_option maxHeartbeats 4000000 in
theorem pread_any (la : Option Addr) (c n : Nat) (l : List Int) (at_ size : Int) (w : World) (ha : InB w la l) (hB : isB l) (hn : l.length = n) (hl : n ≤ 140737488351232) (hcap : n ≤ c) (h1 : okInt at_) (h2 : okInt size) :
    Calls Tryd.prog 62 #[.slice la n c, .int .i64 at_, .int .i64 size] w (ReadTo l at_ size w) := by
  have HS := Lib.hid (isSize_any size)
  unfold okInt at h1 h2
  have HA := Lib.hid (And.intro ha (And.intro hB hn))
  clear ha hB
  by_cases hz : 1 ≤ size ∧ size ≤ 8
  · rw [decide_eq_true hz] at HS
    by_cases a3 : at_ < 0
    · have HE := Lib.hid (ReadTo.bad (l := l) (w := w) (show argR l at_ size = false from decide_eq_false (by omega)))
      clear hn
      go_enter Tryd.func62, Tryd.ntmps62
      go_wp2_with (go_at_call 77; refine (HS.out _).mono ?_; rintro e w' ⟨rfl, rfl⟩)
      go_ret2
      exact HE.out
    by_cases a4 : at_ > n
    · have HE := Lib.hid (ReadTo.bad (l := l) (w := w) (show argR l at_ size = false from decide_eq_false (by omega)))
      clear hn
      go_enter Tryd.func62, Tryd.ntmps62
      go_wp2_with (go_at_call 77; refine (HS.out _).mono ?_; rintro e w' ⟨rfl, rfl⟩)
      go_ret2
      exact HE.out
    obtain ⟨a, rfl⟩ := Int.eq_ofNat_of_zero_le (show 0 ≤ at_ by omega)
    obtain ⟨s, rfl⟩ := Int.eq_ofNat_of_zero_le (show 0 ≤ size by omega)
    have HG : Hid (argR l a s = true) := Lib.hid (decide_eq_true (by omega))
    by_cases a5 : (n : Int) - a < s
    · have HE := Lib.hid (ReadTo.short (w := w) HG.out (show lenR l a s = false from decide_eq_false (by omega)))
      clear hn
      go_enter Tryd.func62, Tryd.ntmps62
      go_wp2_with (go_at_call 77; refine (HS.out _).mono ?_; rintro e w' ⟨rfl, rfl⟩)
      go_ret2
      exact HE.out
    have HL : Hid (lenR l a s = true) := Lib.hid (decide_eq_true (by omega))
    have hs8 : s ≤ 8 := by omega
    have hs1 : 1 ≤ s := by omega
    have has : a + s ≤ n := by omega
    have HN := Lib.hid hn
    obtain ⟨b, o, x0, rfl, -, -⟩ := HA.out.1.one (i := a) (by omega)
    clear hn
    have hadd : (⟨b, o, none⟩ : Addr).add a = ⟨b, o + a, none⟩ := by unfold Addr.add; split <;> simp_all
    have hmap : Option.map (fun x : Addr => x.add a) (some ⟨b, o, none⟩) = some ⟨b, o + a, none⟩ := by rw [Option.map_some, hadd]
    have hsub : a + s - a = s := by omega
    clear hadd
    go_enter Tryd.func62, Tryd.ntmps62
    go_wp2_with (go_at_call 77; refine (HS.out _).mono ?_; rintro e w' ⟨rfl, rfl⟩)
    go_loop [8, 37] (fun u i => ∃ (j x : Nat), j ≤ s ∧ i = .int .i64 (j : Int) ∧ u = .int .u64 (x : Int) ∧ x < 18446744073709551616 ∧ Hid ((x : Int) = valB ((l.drop a).take j))) (fun _ i => s - (intOf i).toNat)
    case atStart => exact ⟨0, 0, by omega, rfl, rfl, by omega, Lib.hid rfl⟩
    case round =>
      obtain ⟨j, x, hj, rfl, rfl, hx, HX⟩ := hrel
      by_cases hlt : j < s
      · obtain ⟨b', o', y, e', hy, y0⟩ := HA.out.1.one (i := a + j) (by rw [HN.out]; omega)
        obtain ⟨rfl, rfl⟩ : b = b' ∧ o = o' := by injection e' with e'; injection e' with e1 e2; exact ⟨e1, e2⟩
        clear e'
        have hyb := HA.out.2.1.at' hy
        rw [← Nat.add_assoc] at y0
        obtain ⟨z, rfl⟩ := Int.eq_ofNat_of_zero_le hyb.1
        have hsm := valB_small ((HA.out.2.1.drop a).take' j) (m := j) (by rw [List.length_take]; omega)
        rw [← HX] at hsm
        have hxj : x < 256 ^ j := by
          have e2 : ((256 ^ j : Nat) : Int) = 256 ^ j := by rw [Int.natCast_pow]; rfl
          rw [← e2] at hsm; omega
        obtain ⟨hor, hlt2⟩ := or_next (y := z) (show j ≤ 7 by omega) hxj (by omega)
        have HV := Lib.hid (valB_next (l := l.drop a) (j := j) (y := (z : Int)) (by rw [List.getElem?_drop]; exact hy))
        have HW : Hid (((x + 256 ^ j * z : Nat) : Int) = valB ((l.drop a).take (j + 1))) := Lib.hid (by
          rw [HV.out, ← HX, Int.natCast_add, Int.natCast_mul, Int.natCast_pow]; rfl)
        have HO := Lib.hid hor
        generalize x + 256 ^ j * z = x2 at *
        clear hy hsm hxj HV hor
        go_wp2_with fail
        rw [HO.out]
        go_round
        case rel => exact ⟨j + 1, x2, by omega, by go_num, rfl, hlt2, HW⟩
        case measure => simp [intOf]; omega
      · have hjs : j = s := by omega
        subst hjs
        by_cases ht : x ≤ 9223372036854775807
        · have HT : Hid (topR l a j = true) := Lib.hid (decide_eq_true (by unfold cutB; rw [Int.toNat_natCast, Int.toNat_natCast, ← HX]; omega))
          have HE := Lib.hid (ReadTo.good (w := w) HG.out HL.out HT.out (show (x : Int) = valB (cutB l a j) by unfold cutB; rw [Int.toNat_natCast, Int.toNat_natCast, HX]))
          go_wp2_with fail
          go_ret2
          exact HE.out
        · have HT : Hid (topR l a j = false) := Lib.hid (decide_eq_false (by unfold cutB; rw [Int.toNat_natCast, Int.toNat_natCast, ← HX]; omega))
          have HE := Lib.hid (ReadTo.top (w := w) HG.out HL.out HT.out)
          go_wp2_with fail
          go_ret2
          exact HE.out
  · rw [decide_eq_false hz] at HS
    have HE := Lib.hid (ReadTo.bad (l := l) (w := w) (show argR l at_ size = false from decide_eq_false (by omega)))
    clear hn
    go_enter Tryd.func62, Tryd.ntmps62
    go_wp2_with (go_at_call 77; refine (HS.out _).mono ?_; rintro e w' ⟨rfl, rfl⟩)
    go_ret2
    exact HE.out
end Go.Proofs.YtonjapphhbhcpaaDoor
