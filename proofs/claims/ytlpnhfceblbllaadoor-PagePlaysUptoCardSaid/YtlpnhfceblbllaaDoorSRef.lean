/- The document's own turns and sums: their contracts. No statement is proved here. -/
import Derived.Test.YtlpnhfceblbllaaDoorY
import Derived.Test.YtlpnhfceblbllaaDoorSPure
namespace Go.Proofs.YtlpnhfceblbllaaDoor
open Go.RowKit
set_option maxRecDepth 100000

theorem xor32 (a b : Nat) (ha : a < 4294967296) (hb : b < 4294967296) : bits .xor .u32 (a : Int) (b : Int) = ((a ^^^ b : Nat) : Int) := by
  have := u32_xor (a : Int) (b : Int) (by omega) (by omega) (by omega) (by omega)
  simpa using this
theorem xorF (a : Nat) (ha : a < 4294967296) : bits .xor .u32 (a : Int) 4294967295 = ((a ^^^ 4294967295 : Nat) : Int) := xor32 a 4294967295 ha (by omega)
theorem wrapF (a : Nat) (ha : a < 4294967296) : wrap64 (bits .xor .u32 (a : Int) 4294967295) = ((a ^^^ 4294967295 : Nat) : Int) := by
  have := Nat.xor_lt_two_pow (n := 32) ha (show 4294967295 < 2 ^ 32 by omega)
  rw [xorF a ha]
  generalize a ^^^ 4294967295 = b at *
  simp only [wrap64]
  omega
theorem turn_odd {x : Nat} (hx : x < 4294967296) (h : x % 2 = 1) : bits .xor .u32 ((x : Int) / 2) 3988292384 = ((turn x : Nat) : Int) := by
  have e := xor32 (x / 2) 3988292384 (by omega) (by omega)
  rw [turn_def, if_pos h, ← e]
  rfl
theorem turn_even {x : Nat} (h : ¬ x % 2 = 1) : ((x : Int) / 2) = ((turn x : Nat) : Int) := by
  rw [turn_def, if_neg h]
  rfl
theorem turns_any (r n : Nat) (hr : r < 4294967296) (hn : n ≤ 9223372036854775807) (w : World) :
    Calls Tryd.prog 66 #[.int .u32 (r : Int), .int .i64 (n : Int)] w fun e w' => e = .returned (.int .u32 (turnsN n r : Nat)) ∧ w = w' := by
  go_enter Tryd.func66, Tryd.ntmps66
  go_wp2
  go_loop [0, 5] (fun u i => ∃ (k x : Nat), k ≤ n ∧ i = .int .i64 k ∧ u = .int .u32 x ∧ x < 4294967296 ∧ x = turnsN k r) (fun _ i => n - (intOf i).toNat)
  case atStart => exact ⟨0, r, by omega, rfl, rfl, hr, rfl⟩
  case round =>
    obtain ⟨k, x, hk, rfl, rfl, hx, hs⟩ := hrel
    have HS := Lib.hid hs
    clear hs
    by_cases hlt : k < n
    · by_cases hp : x % 2 = 1
      · have hb : (((x : Int) % 2) == 1) = true := by simp; omega
        have HT := Lib.hid (turn_odd hx hp)
        go_wp2
        go_round
        case rel => exact ⟨k + 1, turn x, by omega, by go_num, by rw [HT.out], turn_lt hx, by rw [turnsN_succ, HS.out]⟩
        case measure => simp [intOf]; omega
      · have hb : (((x : Int) % 2) == 1) = false := by simp; omega
        have HT := Lib.hid (turn_even hp)
        go_wp2
        go_round
        case rel => exact ⟨k + 1, turn x, by omega, by go_num, by rw [HT.out], turn_lt hx, by rw [turnsN_succ, HS.out]⟩
        case measure => simp [intOf]; omega
    · have hkn : k = n := by omega
      subst hkn
      go_wp2
      go_ret
      exact ⟨ret_int (by rw [HS.out]), rfl⟩

/-- Is it a sum? -/
def mayB (s : Int) : Bool := decide (0 ≤ s ∧ s ≤ 4294967295)
theorem may_any (s : Int) (w : World) : Calls Tryd.prog 65 #[.int .i64 s] w fun e w' => e = .returned (.bool (mayB s)) ∧ w = w' := by
  by_cases h1 : 0 ≤ s
  · by_cases h2 : s ≤ 4294967295
    · have hb : mayB s = true := decide_eq_true ⟨h1, h2⟩
      rw [hb]
      clear hb
      go_enter Tryd.func65, Tryd.ntmps65
      go_wp2
      go_ret
      exact ⟨rfl, rfl⟩
    · have hb : mayB s = false := decide_eq_false (by omega)
      rw [hb]
      clear hb
      go_enter Tryd.func65, Tryd.ntmps65
      go_wp2
      go_ret
      exact ⟨rfl, rfl⟩
  · have hb : mayB s = false := decide_eq_false (by omega)
    rw [hb]
    clear hb
    go_enter Tryd.func65, Tryd.ntmps65
    go_wp2
    go_ret
    exact ⟨rfl, rfl⟩
/-- Bytes as natural numbers. -/
def natL (l : List Int) : List Nat := l.map Int.toNat
theorem natL_len (l : List Int) : (natL l).length = l.length := List.length_map _
theorem natL_append (a b : List Int) : natL (a ++ b) = natL a ++ natL b := List.map_append
theorem natL_byte {l : List Int} (h : isB l) : ∀ b ∈ natL l, b < 256 := by
  intro b hb
  obtain ⟨x, hx, rfl⟩ := List.mem_map.1 hb
  have := h x hx
  omega
theorem isB.take {l : List Int} (h : isB l) (k : Nat) : isB (l.take k) := fun b hb => h b (List.mem_of_mem_take hb)
theorem isB.get {l : List Int} (h : isB l) {k : Nat} {x : Int} (hx : l[k]? = some x) : 0 ≤ x ∧ x ≤ 255 := h x (List.mem_of_getElem? hx)
theorem take_next {l : List Int} {k : Nat} {x : Int} (hx : l[k]? = some x) : l.take (k + 1) = l.take k ++ [x] := by
  rw [List.take_add_one, hx]; rfl
def moreP (s : Int) (l : List Int) : Int := if mayB s then ((moreN s.toNat (natL l) : Nat) : Int) else 0
def moreE (s : Int) : Int := if mayB s then 0 else 1
/-- The number that goes through the bytes so far. -/
def runN (s : Nat) (l : List Int) : Nat := crc (s ^^^ 4294967295) (natL l)
theorem runN_lt {s : Nat} (hs : s < 4294967296) {l : List Int} (h : isB l) : runN s l < 4294967296 := crc_lt _ (Nat.xor_lt_two_pow (n := 32) hs (by omega)) (natL_byte h)
theorem runN_next {s : Nat} {l : List Int} {k : Nat} {x : Int} (hx : l[k]? = some x) : runN s (l.take (k + 1)) = t8 (runN s (l.take k) ^^^ x.toNat) := by
  unfold runN
  rw [take_next hx, natL_append]
  exact crc_snoc _ _ _
theorem byte32 {x : Int} (h : 0 ≤ x ∧ x ≤ 255) {r : Nat} (hr : r < 4294967296) : bits .xor .u32 (r : Int) x = ((r ^^^ x.toNat : Nat) : Int) := by
  obtain ⟨m, rfl⟩ := Int.eq_ofNat_of_zero_le h.1
  exact xor32 r m hr (by omega)
set_option maxHeartbeats 800000 in
theorem refMore_any (s : Int) (a : Option Addr) (c n : Nat) (l : List Int) (w : World) (ha : InB w a l) (hB : isB l) (hn : l.length = n) (hl : n ≤ 140737488351232) :
    Calls Tryd.prog 53 #[.int .i64 s, .slice a n c] w fun e w' => e = .returned (.tuple #[.int .i64 (moreP s l), .int .i64 (moreE s)]) ∧ w = w' := by
  have HM : Hid (∀ w : World, Calls Tryd.prog 65 #[.int .i64 s] w fun e w' => e = .returned (.bool (mayB s)) ∧ w = w') := Lib.hid (may_any s)
  have HA := Lib.hid (And.intro ha (And.intro hB hn))
  unfold moreP moreE
  clear ha hB hn
  cases hm : mayB s
  · rw [hm] at HM
    clear hm
    go_enter Tryd.func53, Tryd.ntmps53
    go_wp2_with (go_at_call 65; refine (HM.out _).mono ?_; rintro e w' ⟨rfl, rfl⟩)
    go_ret2
    exact ⟨rfl, rfl⟩
  · have hs : 0 ≤ s ∧ s ≤ 4294967295 := of_decide_eq_true hm
    obtain ⟨m, rfl⟩ := Int.eq_ofNat_of_zero_le hs.1
    have hm2 : m < 4294967296 := by omega
    rw [hm] at HM
    clear hm hs
    have HX := Lib.hid (xorF m hm2)
    go_enter Tryd.func53, Tryd.ntmps53
    go_wp2_with (go_at_call 65; refine (HM.out _).mono ?_; rintro e w' ⟨rfl, rfl⟩)
    go_loop [7, 8] (fun u i => ∃ k : Nat, k ≤ n ∧ i = .int .i64 k ∧ u = .int .u32 (runN m (l.take k) : Nat)) (fun _ i => n - (intOf i).toNat)
    case atStart => exact ⟨0, by omega, rfl, by rw [HX.out]; rfl⟩
    case round =>
      obtain ⟨k, hk, rfl, rfl⟩ := hrel
      by_cases hlt : k < n
      · obtain ⟨b, o, x, rfl, hx, x0⟩ := HA.out.1.one (i := k) (by rw [HA.out.2.2]; exact hlt)
        have hb := HA.out.2.1.get hx
        have hr := runN_lt hm2 (HA.out.2.1.take k)
        have HR := Lib.hid (runN_next (s := m) hx)
        have HC := Lib.hid (turns_any (runN m (l.take k) ^^^ x.toNat) 8 (Nat.xor_lt_two_pow (n := 32) hr (by omega)) (by omega))
        have HY := Lib.hid (byte32 hb hr)
        generalize runN m (l.take k) = r at *
        clear hx
        go_wp2_with (go_at_call 66; rw [HY.out]; refine (HC.out _).mono ?_; rintro e w' ⟨rfl, rfl⟩)
        go_round
        case rel => exact ⟨k + 1, by omega, by go_num, by rw [HR.out, t8_def]⟩
        case measure => simp [intOf]; omega
      · have hkn : k = n := by omega
        subst hkn
        have hr := runN_lt hm2 (HA.out.2.1.take k)
        have HY := Lib.hid (wrapF (runN m (l.take k)) hr)
        have HT := Lib.hid (show l.take k = l from List.take_of_length_le (by rw [HA.out.2.2]; omega))
        clear hr
        go_wp2
        rw [HY.out, HT.out]
        go_ret2
        exact ⟨rfl, rfl⟩
end Go.Proofs.YtlpnhfceblbllaaDoor
