/- The program's own Read: its contract. No statement is proved here. -/
import Derived.Test.YtlpnhfceblbllaaDoorSProg6
import Derived.Test.YtlpnhfceblbllaaDoorSRead2
namespace Go.Proofs.YtlpnhfceblbllaaDoor
open Go.RowKit
set_option maxRecDepth 100000

theorem or_next {x y j : Nat} (hj : j ≤ 7) (hx : x < 256 ^ j) (hy : y < 256) : bits .or .u64 (x : Int) (IntKind.u64.wrap ((y : Int) * 2 ^ (8 * j))) = ((x + 256 ^ j * y : Nat) : Int) ∧ x + 256 ^ j * y < 18446744073709551616 := by
  have hp : 256 ^ j ≤ 72057594037927936 := Nat.le_trans (Nat.pow_le_pow_right (by decide) hj) (by decide)
  have hp2 : (2 : Nat) ^ (8 * j) = 256 ^ j := by rw [Nat.pow_mul]
  have hm : 256 ^ j * y ≤ 256 ^ j * 255 := Nat.mul_le_mul_left _ (by omega)
  have e1 : (y : Int) * 2 ^ (8 * j) = ((256 ^ j * y : Nat) : Int) := by
    have : ((2 : Int) ^ (8 * j)) = ((2 ^ (8 * j) : Nat) : Int) := by rw [Int.natCast_pow]; rfl
    rw [this, hp2, ← Int.natCast_mul, Nat.mul_comm]
  have e2 : IntKind.u64.wrap (((256 ^ j * y : Nat) : Int)) = ((256 ^ j * y : Nat) : Int) := by
    rw [IntKind.wrap_u64]
    generalize 256 ^ j * y = z at *
    omega
  have e3 := Nat.two_pow_add_eq_or_of_lt (i := 8 * j) (show x < 2 ^ (8 * j) by rw [hp2]; exact hx) y
  rw [hp2] at e3
  rw [e1, e2, u64_or_nat x _ (by omega) (by generalize 256 ^ j * y = z at *; omega), Nat.or_comm, ← e3]
  generalize 256 ^ j * y = z at *
  refine ⟨by omega, ?_⟩
  omega
theorem valB_next {l : List Int} {j : Nat} {y : Int} (hy : l[j]? = some y) : valB (l.take (j + 1)) = valB (l.take j) + 256 ^ j * y := by
  have hl := lt_of_get hy
  rw [take_next hy, valB_append, List.length_take, Nat.min_eq_left (by omega)]
  simp [valB]
set_option maxHeartbeats 4000000 in
theorem pread_any (la : Option Addr) (c n : Nat) (l : List Int) (at_ size : Int) (w : World) (ha : InB w la l) (hB : isB l) (hn : l.length = n) (hl : n ≤ 140737488351232) (hcap : n ≤ c) (h1 : okInt at_) (h2 : okInt size) :
    Calls Tryd.prog 54 #[.slice la n c, .int .i64 at_, .int .i64 size] w (ReadTo l at_ size w) := by
  have HS := Lib.hid (isSize_any size)
  unfold okInt at h1 h2
  have HA := Lib.hid (And.intro ha (And.intro hB hn))
  clear ha hB
  by_cases hz : 1 ≤ size ∧ size ≤ 8
  · rw [decide_eq_true hz] at HS
    by_cases a3 : at_ < 0
    · have HE := Lib.hid (ReadTo.bad (l := l) (w := w) (show argR l at_ size = false from decide_eq_false (by omega)))
      clear hn
      go_enter Tryd.func54, Tryd.ntmps54
      go_wp2_with (go_at_call 63; refine (HS.out _).mono ?_; rintro e w' ⟨rfl, rfl⟩)
      go_ret2
      exact HE.out
    by_cases a4 : at_ > n
    · have HE := Lib.hid (ReadTo.bad (l := l) (w := w) (show argR l at_ size = false from decide_eq_false (by omega)))
      clear hn
      go_enter Tryd.func54, Tryd.ntmps54
      go_wp2_with (go_at_call 63; refine (HS.out _).mono ?_; rintro e w' ⟨rfl, rfl⟩)
      go_ret2
      exact HE.out
    obtain ⟨a, rfl⟩ := Int.eq_ofNat_of_zero_le (show 0 ≤ at_ by omega)
    obtain ⟨s, rfl⟩ := Int.eq_ofNat_of_zero_le (show 0 ≤ size by omega)
    have HG : Hid (argR l a s = true) := Lib.hid (decide_eq_true (by omega))
    by_cases a5 : (n : Int) - a < s
    · have HE := Lib.hid (ReadTo.short (w := w) HG.out (show lenR l a s = false from decide_eq_false (by omega)))
      clear hn
      go_enter Tryd.func54, Tryd.ntmps54
      go_wp2_with (go_at_call 63; refine (HS.out _).mono ?_; rintro e w' ⟨rfl, rfl⟩)
      go_ret2
      exact HE.out
    have HL : Hid (lenR l a s = true) := Lib.hid (decide_eq_true (by omega))
    have hs8 : s ≤ 8 := by omega
    have hs1 : 1 ≤ s := by omega
    have has : a + s ≤ n := by omega
    have HN := Lib.hid hn
    obtain ⟨b, o, x0, rfl, -, -⟩ := HA.out.1.one (i := a) (by omega)
    clear hn
    have hadd : (⟨b, o, none⟩ : Addr).add a = ⟨b, o + a, none⟩ := by unfold Addr.add; split <;> simp_all
    have hmap : Option.map (fun x : Addr => x.add a) (some ⟨b, o, none⟩) = some ⟨b, o + a, none⟩ := by rw [Option.map_some, hadd]
    have hsub : a + s - a = s := by omega
    clear hadd
    go_enter Tryd.func54, Tryd.ntmps54
    go_wp2_with (go_at_call 63; refine (HS.out _).mono ?_; rintro e w' ⟨rfl, rfl⟩)
    go_loop [8, 37] (fun u i => ∃ (j x : Nat), j ≤ s ∧ i = .int .i64 (j : Int) ∧ u = .int .u64 (x : Int) ∧ x < 18446744073709551616 ∧ Hid ((x : Int) = valB ((l.drop a).take j))) (fun _ i => s - (intOf i).toNat)
    case atStart => exact ⟨0, 0, by omega, rfl, rfl, by omega, Lib.hid rfl⟩
    case round =>
      obtain ⟨j, x, hj, rfl, rfl, hx, HX⟩ := hrel
      by_cases hlt : j < s
      · obtain ⟨b', o', y, e', hy, y0⟩ := HA.out.1.one (i := a + j) (by rw [HN.out]; omega)
        obtain ⟨rfl, rfl⟩ : b = b' ∧ o = o' := by injection e' with e'; injection e' with e1 e2; exact ⟨e1, e2⟩
        clear e'
        have hyb := HA.out.2.1.at' hy
        rw [← Nat.add_assoc] at y0
        obtain ⟨z, rfl⟩ := Int.eq_ofNat_of_zero_le hyb.1
        have hsm := valB_small ((HA.out.2.1.drop a).take' j) (m := j) (by rw [List.length_take]; omega)
        rw [← HX] at hsm
        have hxj : x < 256 ^ j := by
          have e2 : ((256 ^ j : Nat) : Int) = 256 ^ j := by rw [Int.natCast_pow]; rfl
          rw [← e2] at hsm; omega
        obtain ⟨hor, hlt2⟩ := or_next (y := z) (show j ≤ 7 by omega) hxj (by omega)
        have HV := Lib.hid (valB_next (l := l.drop a) (j := j) (y := (z : Int)) (by rw [List.getElem?_drop]; exact hy))
        have HW : Hid (((x + 256 ^ j * z : Nat) : Int) = valB ((l.drop a).take (j + 1))) := Lib.hid (by
          rw [HV.out, ← HX, Int.natCast_add, Int.natCast_mul, Int.natCast_pow]; rfl)
        have HO := Lib.hid hor
        generalize x + 256 ^ j * z = x2 at *
        clear hy hsm hxj HV hor
        go_wp2_with fail
        rw [HO.out]
        go_round
        case rel => exact ⟨j + 1, x2, by omega, by go_num, rfl, hlt2, HW⟩
        case measure => simp [intOf]; omega
      · have hjs : j = s := by omega
        subst hjs
        by_cases ht : x ≤ 9223372036854775807
        · have HT : Hid (topR l a j = true) := Lib.hid (decide_eq_true (by unfold cutB; rw [Int.toNat_natCast, Int.toNat_natCast, ← HX]; omega))
          have HE := Lib.hid (ReadTo.good (w := w) HG.out HL.out HT.out (show (x : Int) = valB (cutB l a j) by unfold cutB; rw [Int.toNat_natCast, Int.toNat_natCast, HX]))
          go_wp2_with fail
          go_ret2
          exact HE.out
        · have HT : Hid (topR l a j = false) := Lib.hid (decide_eq_false (by unfold cutB; rw [Int.toNat_natCast, Int.toNat_natCast, ← HX]; omega))
          have HE := Lib.hid (ReadTo.top (w := w) HG.out HL.out HT.out)
          go_wp2_with fail
          go_ret2
          exact HE.out
  · rw [decide_eq_false hz] at HS
    have HE := Lib.hid (ReadTo.bad (l := l) (w := w) (show argR l at_ size = false from decide_eq_false (by omega)))
    clear hn
    go_enter Tryd.func54, Tryd.ntmps54
    go_wp2_with (go_at_call 63; refine (HS.out _).mono ?_; rintro e w' ⟨rfl, rfl⟩)
    go_ret2
    exact HE.out
end Go.Proofs.YtlpnhfceblbllaaDoor
