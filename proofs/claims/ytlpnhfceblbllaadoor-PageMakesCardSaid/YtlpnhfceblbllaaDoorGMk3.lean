/- The program's reading of a number, and of bytes that are 0. No statement is proved here. -/
import Derived.Test.YtlpnhfceblbllaaDoorGMk2
namespace Go.Proofs.YtlpnhfceblbllaaDoor
open Go.RowKit
set_option maxRecDepth 100000

theorem cutB_all (l : List Int) : cutB l 0 (l.length : Int) = l := by
  unfold cutB
  rw [Int.toNat_natCast]
  exact List.take_of_length_le (Nat.le_refl _)
set_option maxHeartbeats 4000000 in
theorem ltold_any (la : Option Addr) (c n : Nat) (l : List Int) (w : World) (ha : InB w la l) (hB : isB l) (hn : l.length = n) (hcap : n ≤ c) (hs1 : 1 ≤ n) (hs : n ≤ 7) :
    Calls Tryd.prog 32 #[.slice la n c] w fun e w' => e = .returned (.int .i64 (valB l)) ∧ w = w' := by
  have HR := Lib.hid (pread_any la c n l (0 : Nat) n w ha hB hn (by omega) hcap (by unfold okInt; omega) (by unfold okInt; omega))
  unfold ReadTo at HR
  have hr := read_is hB (a := 0) (s := n) hs1 hs (by omega)
  have hc : cutB l ((0 : Nat) : Int) (n : Int) = l := by rw [← hn]; exact cutB_all l
  rw [hr.1, hr.2, hc] at HR
  clear hr ha hB hn hc
  go_enter Tryd.func32, Tryd.ntmps32
  go_wp2_with fail
  refine HR.out.mono ?_
  rintro e w' ⟨rfl, rfl⟩
  go_wp2_with fail
  go_ret
  exact ⟨rfl, rfl⟩
set_option maxHeartbeats 4000000 in
theorem lempty_any (la : Option Addr) (c n : Nat) (l : List Int) (w : World) (ha : InB w la l) (hB : isB l) (hn : l.length = n) (hnn : n ≤ 140737488351232) :
    Calls Tryd.prog 33 #[.slice la n c] w fun e w' => e = .returned (.bool (l.all (· == 0))) ∧ w = w' := by
  have HA := Lib.hid (And.intro ha (And.intro hB hn))
  clear ha hB hn
  go_enter Tryd.func33, Tryd.ntmps33
  go_wp2_with fail
  go_loop [4, 7] (fun _ i => ∃ k : Nat, k ≤ n ∧ i = .int .i64 (k : Int) ∧ Hid (∀ j, j < k → l[j]? = some 0)) (fun _ i => n - (intOf i).toNat)
  case atStart => exact ⟨0, Nat.zero_le _, rfl, Lib.hid (show ∀ j, j < 0 → l[j]? = some 0 from fun j h => absurd h (Nat.not_lt_zero _))⟩
  case round =>
    obtain ⟨k, hk, rfl, HK⟩ := hrel
    by_cases hlt : k < n
    · obtain ⟨b, o, y, rfl, hy, y0⟩ := HA.out.1.one (i := k) (by rw [HA.out.2.2]; exact hlt)
      have HY := Lib.hid hy
      have hyb := HA.out.2.1.at' hy
      clear hy
      by_cases hy0 : y = 0
      · subst hy0
        go_wp2_with fail
        go_round
        case rel => exact ⟨k + 1, by omega, by go_num, Lib.hid (show ∀ j, j < k + 1 → l[j]? = some 0 from fun j h => by
          by_cases e : j = k
          · rw [e]; exact HY.out
          · exact HK.out j (by omega))⟩
        case measure => simp [intOf]; omega
      · have q5 : (y != 0) = true := by simp [hy0]
        have HX : Hid (l.all (· == 0) = false) := Lib.hid (by
          cases h : l.all (· == 0)
          · rfl
          · have := List.all_eq_true.1 h y (List.mem_of_getElem? HY.out)
            simp at this
            exact absurd this hy0)
        go_wp2_with fail
        go_ret
        exact ⟨by rw [HX.out]; rfl, rfl⟩
    · have hkn : k = n := by omega
      subst hkn
      have HX : Hid (l.all (· == 0) = true) := Lib.hid (List.all_eq_true.2 (fun x hx => by
        obtain ⟨i, hi⟩ := List.mem_iff_getElem?.1 hx
        have hl := (List.getElem?_eq_some_iff.1 hi).1
        have := HK.out i (by rw [← HA.out.2.2]; exact hl)
        rw [this] at hi
        cases hi
        rfl))
      go_wp2_with fail
      go_ret
      exact ⟨by rw [HX.out]; rfl, rfl⟩
end Go.Proofs.YtlpnhfceblbllaaDoor
