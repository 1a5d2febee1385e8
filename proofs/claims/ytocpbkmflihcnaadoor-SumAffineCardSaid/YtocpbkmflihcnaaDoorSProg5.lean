/- The program's own Join and Number: their contracts. No statement is proved here. -/
import Derived.Test.YtocpbkmflihcnaaDoorSProg4
import Derived.Test.YtocpbkmflihcnaaDoorSNum
namespace Go.Proofs.YtocpbkmflihcnaaDoor
open Go.RowKit
set_option maxRecDepth 100000

theorem pjoinBad_any (x y n : Int) (h : okJ x y n = false) (w : World) :
    Calls Tryd.prog 17 #[.int .i64 x, .int .i64 y, .int .i64 n] w fun e w' => e = .returned (.tuple #[.int .i64 (joinP x y n), .int .i64 (joinE x y n)]) ∧ w = w' := by
  have HX := Lib.hid (isSum_any x)
  have HY := Lib.hid (isSum_any y)
  unfold joinP joinE
  rw [h]
  unfold okJ at h
  cases hx : mayB x <;> cases hy : mayB y <;> rw [hx, hy] at h <;> rw [hx] at HX <;> rw [hy] at HY <;> clear hx hy
  · clear h
    go_enter Tryd.func17, Tryd.ntmps17
    go_wp2_with fail
    refine (HX.out _).mono ?_
    rintro e w' ⟨rfl, rfl⟩
    go_wp2_with fail
    go_ret2
    exact ⟨rfl, rfl⟩
  · clear h
    go_enter Tryd.func17, Tryd.ntmps17
    go_wp2_with fail
    refine (HX.out _).mono ?_
    rintro e w' ⟨rfl, rfl⟩
    go_wp2_with fail
    go_ret2
    exact ⟨rfl, rfl⟩
  · clear h
    go_enter Tryd.func17, Tryd.ntmps17
    go_wp2_with fail
    refine (HX.out _).mono ?_
    rintro e w' ⟨rfl, rfl⟩
    go_wp2_with fail
    refine (HY.out _).mono ?_
    rintro e w' ⟨rfl, rfl⟩
    go_wp2_with fail
    go_ret2
    exact ⟨rfl, rfl⟩
  · have hn : n < 0 := by simpa using h
    clear h
    go_enter Tryd.func17, Tryd.ntmps17
    go_wp2_with fail
    refine (HX.out _).mono ?_
    rintro e w' ⟨rfl, rfl⟩
    go_wp2_with fail
    refine (HY.out _).mono ?_
    rintro e w' ⟨rfl, rfl⟩
    go_wp2_with fail
    go_ret2
    exact ⟨rfl, rfl⟩
theorem i64_xorN (a b : Nat) (ha : a < 4294967296) (hb : b < 4294967296) : bits .xor .i64 (a : Int) (b : Int) = ((a ^^^ b : Nat) : Int) := by
  have hx := Nat.xor_lt_two_pow (n := 32) ha hb
  have key : (BitVec.ofInt 64 (a : Int) ^^^ BitVec.ofInt 64 (b : Int)).toNat = a ^^^ b := by
    rw [BitVec.toNat_xor, BitVec.toNat_ofInt, BitVec.toNat_ofInt]
    have e1 : ((a : Int) % ((2 ^ 64 : Nat) : Int)).toNat = a := by omega
    have e2 : ((b : Int) % ((2 ^ 64 : Nat) : Int)).toNat = b := by omega
    rw [e1, e2]
  show IntKind.i64.wrap ((BitVec.ofInt 64 (a : Int) ^^^ BitVec.ofInt 64 (b : Int)).toNat : Nat) = _
  rw [key, IntKind.wrap_i64]
  generalize a ^^^ b = c at *
  omega
theorem pjoinOk_any (X Y M : Nat) (hX : X < 4294967296) (hY : Y < 4294967296) (hM : M ≤ 9223372036854775807) (w : World) (ht : Tabs w) :
    Calls Tryd.prog 17 #[.int .i64 (X : Int), .int .i64 (Y : Int), .int .i64 (M : Int)] w fun e w' => e = .returned (.tuple #[.int .i64 (joinN X Y M : Nat), .int .i64 0]) ∧ Below w.heap.size w w' := by
  have MX := Lib.hid (isSum_any (X : Int))
  have MY := Lib.hid (isSum_any (Y : Int))
  rw [show mayB (X : Int) = true from decide_eq_true (by omega)] at MX
  rw [show mayB (Y : Int) = true from decide_eq_true (by omega)] at MY
  have HP := Lib.hid (past_any X M hX hM w ht)
  have hr := t8N_lt M hX
  have hx := i64_xorN (t8N M X) Y hr hY
  have HJ := Lib.hid (show t8N M X ^^^ Y = joinN X Y M from rfl)
  rw [HJ.out] at hx
  generalize joinN X Y M = z at *
  generalize t8N M X = r at *
  clear ht HJ
  go_enter Tryd.func17, Tryd.ntmps17
  go_wp2_with fail
  refine (MX.out _).mono ?_
  rintro e w' ⟨rfl, rfl⟩
  go_wp2_with fail
  refine (MY.out _).mono ?_
  rintro e w' ⟨rfl, rfl⟩
  go_wp2_with fail
  refine HP.out.mono ?_
  rintro e w' ⟨rfl, hb⟩
  go_wp2_with fail
  go_ret2
  exact ⟨rfl, hb⟩
theorem pjoin_any (x y n : Int) (hx : okInt x) (hy : okInt y) (hn : okInt n) (w : World) (ht : Tabs w) :
    Calls Tryd.prog 17 #[.int .i64 x, .int .i64 y, .int .i64 n] w fun e w' => e = .returned (.tuple #[.int .i64 (joinP x y n), .int .i64 (joinE x y n)]) ∧ Below w.heap.size w w' := by
  cases h : okJ x y n
  · exact (pjoinBad_any x y n h w).mono fun e w' ⟨h1, h2⟩ => ⟨h1, by rw [← h2]; exact Below.refl _ _⟩
  · unfold joinP joinE
    rw [h]
    unfold okJ at h
    rw [Bool.and_eq_true, Bool.and_eq_true, decide_eq_true_eq] at h
    obtain ⟨h1, h2, h3⟩ := h
    have h1 := of_decide_eq_true h1
    have h2 := of_decide_eq_true h2
    obtain ⟨X, rfl⟩ := Int.eq_ofNat_of_zero_le h1.1
    obtain ⟨Y, rfl⟩ := Int.eq_ofNat_of_zero_le h2.1
    obtain ⟨M, rfl⟩ := Int.eq_ofNat_of_zero_le h3
    have := pjoinOk_any X Y M (by omega) (by omega) (by unfold okInt at hn; omega) w ht
    simpa using this
theorem isSize_any (s : Int) (w : World) : Calls Tryd.prog 30 #[.int .i64 s] w fun e w' => e = .returned (.bool (decide (1 ≤ s ∧ s ≤ 8))) ∧ w = w' := by
  by_cases h1 : 1 ≤ s
  · by_cases h2 : s ≤ 8
    · rw [decide_eq_true (show 1 ≤ s ∧ s ≤ 8 from ⟨h1, h2⟩)]
      go_enter Tryd.func30, Tryd.ntmps30
      go_wp2
      go_ret
      exact ⟨rfl, rfl⟩
    · rw [decide_eq_false (show ¬ (1 ≤ s ∧ s ≤ 8) by omega)]
      go_enter Tryd.func30, Tryd.ntmps30
      go_wp2
      go_ret
      exact ⟨rfl, rfl⟩
  · rw [decide_eq_false (show ¬ (1 ≤ s ∧ s ≤ 8) by omega)]
    go_enter Tryd.func30, Tryd.ntmps30
    go_wp2
    go_ret
    exact ⟨rfl, rfl⟩
end Go.Proofs.YtocpbkmflihcnaaDoor
