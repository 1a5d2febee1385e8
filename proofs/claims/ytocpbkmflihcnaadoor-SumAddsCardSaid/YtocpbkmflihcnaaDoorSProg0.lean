/- The library's TrailingZeros32, walked here. No statement is proved here. -/
import Derived.Test.YtocpbkmflihcnaaDoorSPNib
import Derived.Test.YtocpbkmflihcnaaDoorSLow
namespace Go.Proofs.YtocpbkmflihcnaaDoor
open Go.RowKit
set_option maxRecDepth 100000

/-- The library's table, as it lies. -/
def Tab32 (w : World) : Prop := ∀ j, j < 32 → w.cell? ⟨1, j, none⟩ = some (.int .u8 (Lib.deBruijn32tab.getD j 0 : Nat))
theorem neg_and {x : Nat} (h0 : x ≠ 0) (hx : x < 4294967296) : bits .and .u32 (x : Int) (-(x : Int) % 4294967296) = ((2 ^ Lib.ctz 32 x : Nat) : Int) := by
  have e1 : -(x : Int) % 4294967296 = ((4294967296 - x : Nat) : Int) := by omega
  have e2 := u32_and (x : Int) ((4294967296 - x : Nat) : Int) (by omega) (by omega) (by omega) (by omega)
  rw [e1, e2, ← (Lib.lowest_bit 32 x h0 hx).1]
  simp
theorem ctz_zero (w : World) : Calls Tryd.prog 35 #[.int .u32 0] w fun e w' => e = .returned (.int .i64 32) ∧ w = w' := by
  go_enter Tryd.func35, Tryd.ntmps35
  go_wp2
  go_ret
  exact ⟨rfl, rfl⟩
theorem ctz_core (x k i : Nat) (hz : ((x : Int) == 0) = false) (key : bits .and .u32 (x : Int) (-(x : Int) % 4294967296) * 125613361 % 4294967296 / 134217728 = (i : Int)) (hi : i < 32) (hk : k < 32) (w : World) (c0 : w.cell? ⟨1, i, none⟩ = some (.int .u8 (k : Nat))) :
    Calls Tryd.prog 35 #[.int .u32 (x : Int)] w fun e w' => e = .returned (.int .i64 (k : Nat)) ∧ w = w' := by
  go_enter Tryd.func35, Tryd.ntmps35
  go_wp2_with (simp only [key])
  go_ret
  exact ⟨rfl, rfl⟩
theorem key_at (p : Nat) {b : Int} (h : b = (p : Int)) : b * 125613361 % 4294967296 / 134217728 = ((p * 125613361 % 4294967296 / 134217728 : Nat) : Int) := by
  rw [h]; omega
theorem ctz_any (x : Nat) (h0 : x ≠ 0) (hx : x < 4294967296) (w : World) (ht : Tab32 w) :
    Calls Tryd.prog 35 #[.int .u32 (x : Int)] w fun e w' => e = .returned (.int .i64 (Lib.ctz 32 x : Nat)) ∧ w = w' := by
  have hk := (Lib.lowest_bit 32 x h0 hx).2
  obtain ⟨hi, htab⟩ := Lib.deBruijn32_at _ hk
  have c0 := ht _ hi
  rw [htab] at c0
  exact ctz_core x _ _ (by simp; omega) (key_at _ (neg_and h0 hx)) hi hk w c0
end Go.Proofs.YtocpbkmflihcnaaDoor
