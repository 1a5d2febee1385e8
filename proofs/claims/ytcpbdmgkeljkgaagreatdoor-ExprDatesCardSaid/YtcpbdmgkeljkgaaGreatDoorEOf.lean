/- Operators of layer 5: operatorOf. No statement is proved here. -/
import Derived.Test.YtcpbdmgkeljkgaaGreatDoorEOp
import Derived.Test.YtcpbdmgkeljkgaaGreatDoorGet
namespace Go.Proofs.YtcpbdmgkeljkgaaGreatDoor
open Go.RowKit
set_option maxRecDepth 100000

set_option maxHeartbeats 4000000 in
theorem operator_add (w : World) : Calls Tryz.prog 48 #[.string ⟨#[36, 97, 100, 100]⟩] w fun e w' => Below w.heap.size w w' ∧ ∃ t x, e = .returned (.iface t x) ∧ OpAt w.heap.size w' .add (.iface t x) := by
  have hc := row_cells (heap_alloc_new w (.cells #[.func (.func 59) #[] #[], .func (.func 60) #[] #[], .func (.func 61) #[] #[], .func (.func 62) #[] #[], .func (.func 63) #[] #[], .func (.func 64) #[] #[], .func (.func 65) #[] #[]] 94))
  have HB := Lib.hid (below1 w (.cells #[.func (.func 59) #[] #[], .func (.func 60) #[] #[], .func (.func 61) #[] #[], .func (.func 62) #[] #[], .func (.func 63) #[] #[], .func (.func 64) #[] #[], .func (.func 65) #[] #[]] 94))
  go_enter Tryz.func48, Tryz.ntmps48
  go_wp2_with fail
  generalize w.alloc _ = U at hc HB ⊢
  go_loopw [8] (fun x W => ∃ k : Nat, k ≤ 0 ∧ x = .int .i64 k ∧ U = W) (fun x _ => 7 - (intOf x).toNat)
  case atStart => exact ⟨0, by omega, rfl, rfl⟩
  case round =>
    obtain ⟨k, hk, rfl, rfl⟩ := hrel
    have hcs : k = 0 := by omega
    subst hcs
    go_wp2_with fail
    refine (num_add _).mono ?_
    rintro e w1 ⟨b1, t, x, rfl, hop⟩
    have HO := Lib.hid (And.intro b1 hop)
    clear b1 hop hc
    go_wp2_with fail
    go_ret
    exact ⟨below_then HB.out HO.out.1, _, _, rfl, HO.out.2.base HB.out.size⟩
set_option maxHeartbeats 4000000 in
theorem operator_mul (w : World) : Calls Tryz.prog 48 #[.string ⟨#[36, 109, 117, 108, 116, 105, 112, 108, 121]⟩] w fun e w' => Below w.heap.size w w' ∧ ∃ t x, e = .returned (.iface t x) ∧ OpAt w.heap.size w' .mul (.iface t x) := by
  have hc := row_cells (heap_alloc_new w (.cells #[.func (.func 59) #[] #[], .func (.func 60) #[] #[], .func (.func 61) #[] #[], .func (.func 62) #[] #[], .func (.func 63) #[] #[], .func (.func 64) #[] #[], .func (.func 65) #[] #[]] 94))
  have HB := Lib.hid (below1 w (.cells #[.func (.func 59) #[] #[], .func (.func 60) #[] #[], .func (.func 61) #[] #[], .func (.func 62) #[] #[], .func (.func 63) #[] #[], .func (.func 64) #[] #[], .func (.func 65) #[] #[]] 94))
  go_enter Tryz.func48, Tryz.ntmps48
  go_wp2_with fail
  generalize w.alloc _ = U at hc HB ⊢
  go_loopw [8] (fun x W => ∃ k : Nat, k ≤ 0 ∧ x = .int .i64 k ∧ U = W) (fun x _ => 7 - (intOf x).toNat)
  case atStart => exact ⟨0, by omega, rfl, rfl⟩
  case round =>
    obtain ⟨k, hk, rfl, rfl⟩ := hrel
    have hcs : k = 0 := by omega
    subst hcs
    go_wp2_with fail
    refine (num_mul _).mono ?_
    rintro e w1 ⟨b1, t, x, rfl, hop⟩
    have HO := Lib.hid (And.intro b1 hop)
    clear b1 hop hc
    go_wp2_with fail
    go_ret
    exact ⟨below_then HB.out HO.out.1, _, _, rfl, HO.out.2.base HB.out.size⟩
set_option maxHeartbeats 4000000 in
theorem operator_sub (w : World) : Calls Tryz.prog 48 #[.string ⟨#[36, 115, 117, 98, 116, 114, 97, 99, 116]⟩] w fun e w' => Below w.heap.size w w' ∧ ∃ t x, e = .returned (.iface t x) ∧ OpAt w.heap.size w' .sub (.iface t x) := by
  have hc := row_cells (heap_alloc_new w (.cells #[.func (.func 59) #[] #[], .func (.func 60) #[] #[], .func (.func 61) #[] #[], .func (.func 62) #[] #[], .func (.func 63) #[] #[], .func (.func 64) #[] #[], .func (.func 65) #[] #[]] 94))
  have HB := Lib.hid (below1 w (.cells #[.func (.func 59) #[] #[], .func (.func 60) #[] #[], .func (.func 61) #[] #[], .func (.func 62) #[] #[], .func (.func 63) #[] #[], .func (.func 64) #[] #[], .func (.func 65) #[] #[]] 94))
  go_enter Tryz.func48, Tryz.ntmps48
  go_wp2_with fail
  generalize w.alloc _ = U at hc HB ⊢
  go_loopw [8] (fun x W => ∃ k : Nat, k ≤ 0 ∧ x = .int .i64 k ∧ U = W) (fun x _ => 7 - (intOf x).toNat)
  case atStart => exact ⟨0, by omega, rfl, rfl⟩
  case round =>
    obtain ⟨k, hk, rfl, rfl⟩ := hrel
    have hcs : k = 0 := by omega
    subst hcs
    go_wp2_with fail
    refine (num_sub _).mono ?_
    rintro e w1 ⟨b1, t, x, rfl, hop⟩
    have HO := Lib.hid (And.intro b1 hop)
    clear b1 hop hc
    go_wp2_with fail
    go_ret
    exact ⟨below_then HB.out HO.out.1, _, _, rfl, HO.out.2.base HB.out.size⟩
set_option maxHeartbeats 4000000 in
theorem operator_div (w : World) : Calls Tryz.prog 48 #[.string ⟨#[36, 100, 105, 118, 105, 100, 101]⟩] w fun e w' => Below w.heap.size w w' ∧ ∃ t x, e = .returned (.iface t x) ∧ OpAt w.heap.size w' .div (.iface t x) := by
  have hc := row_cells (heap_alloc_new w (.cells #[.func (.func 59) #[] #[], .func (.func 60) #[] #[], .func (.func 61) #[] #[], .func (.func 62) #[] #[], .func (.func 63) #[] #[], .func (.func 64) #[] #[], .func (.func 65) #[] #[]] 94))
  have HB := Lib.hid (below1 w (.cells #[.func (.func 59) #[] #[], .func (.func 60) #[] #[], .func (.func 61) #[] #[], .func (.func 62) #[] #[], .func (.func 63) #[] #[], .func (.func 64) #[] #[], .func (.func 65) #[] #[]] 94))
  go_enter Tryz.func48, Tryz.ntmps48
  go_wp2_with fail
  generalize w.alloc _ = U at hc HB ⊢
  go_loopw [8] (fun x W => ∃ k : Nat, k ≤ 0 ∧ x = .int .i64 k ∧ U = W) (fun x _ => 7 - (intOf x).toNat)
  case atStart => exact ⟨0, by omega, rfl, rfl⟩
  case round =>
    obtain ⟨k, hk, rfl, rfl⟩ := hrel
    have hcs : k = 0 := by omega
    subst hcs
    go_wp2_with fail
    refine (num_div _).mono ?_
    rintro e w1 ⟨b1, t, x, rfl, hop⟩
    have HO := Lib.hid (And.intro b1 hop)
    clear b1 hop hc
    go_wp2_with fail
    go_ret
    exact ⟨below_then HB.out HO.out.1, _, _, rfl, HO.out.2.base HB.out.size⟩
set_option maxHeartbeats 4000000 in
theorem operator_mod (w : World) : Calls Tryz.prog 48 #[.string ⟨#[36, 109, 111, 100]⟩] w fun e w' => Below w.heap.size w w' ∧ ∃ t x, e = .returned (.iface t x) ∧ OpAt w.heap.size w' .mod (.iface t x) := by
  have hc := row_cells (heap_alloc_new w (.cells #[.func (.func 59) #[] #[], .func (.func 60) #[] #[], .func (.func 61) #[] #[], .func (.func 62) #[] #[], .func (.func 63) #[] #[], .func (.func 64) #[] #[], .func (.func 65) #[] #[]] 94))
  have HB := Lib.hid (below1 w (.cells #[.func (.func 59) #[] #[], .func (.func 60) #[] #[], .func (.func 61) #[] #[], .func (.func 62) #[] #[], .func (.func 63) #[] #[], .func (.func 64) #[] #[], .func (.func 65) #[] #[]] 94))
  go_enter Tryz.func48, Tryz.ntmps48
  go_wp2_with fail
  generalize w.alloc _ = U at hc HB ⊢
  go_loopw [8] (fun x W => ∃ k : Nat, k ≤ 0 ∧ x = .int .i64 k ∧ U = W) (fun x _ => 7 - (intOf x).toNat)
  case atStart => exact ⟨0, by omega, rfl, rfl⟩
  case round =>
    obtain ⟨k, hk, rfl, rfl⟩ := hrel
    have hcs : k = 0 := by omega
    subst hcs
    go_wp2_with fail
    refine (num_mod _).mono ?_
    rintro e w1 ⟨b1, t, x, rfl, hop⟩
    have HO := Lib.hid (And.intro b1 hop)
    clear b1 hop hc
    go_wp2_with fail
    go_ret
    exact ⟨below_then HB.out HO.out.1, _, _, rfl, HO.out.2.base HB.out.size⟩
set_option maxHeartbeats 4000000 in
theorem operator_max (w : World) : Calls Tryz.prog 48 #[.string ⟨#[36, 109, 97, 120]⟩] w fun e w' => Below w.heap.size w w' ∧ ∃ t x, e = .returned (.iface t x) ∧ OpAt w.heap.size w' .max (.iface t x) := by
  have hc := row_cells (heap_alloc_new w (.cells #[.func (.func 59) #[] #[], .func (.func 60) #[] #[], .func (.func 61) #[] #[], .func (.func 62) #[] #[], .func (.func 63) #[] #[], .func (.func 64) #[] #[], .func (.func 65) #[] #[]] 94))
  have HB := Lib.hid (below1 w (.cells #[.func (.func 59) #[] #[], .func (.func 60) #[] #[], .func (.func 61) #[] #[], .func (.func 62) #[] #[], .func (.func 63) #[] #[], .func (.func 64) #[] #[], .func (.func 65) #[] #[]] 94))
  go_enter Tryz.func48, Tryz.ntmps48
  go_wp2_with fail
  generalize w.alloc _ = U at hc HB ⊢
  go_loopw [8] (fun x W => ∃ k : Nat, k ≤ 4 ∧ x = .int .i64 k ∧ U = W) (fun x _ => 7 - (intOf x).toNat)
  case atStart => exact ⟨0, by omega, rfl, rfl⟩
  case round =>
    obtain ⟨k, hk, rfl, rfl⟩ := hrel
    have hcs : k = 0 ∨ k = 1 ∨ k = 2 ∨ k = 3 ∨ k = 4 := by omega
    rcases hcs with rfl | rfl | rfl | rfl | rfl
    · go_wp2_with fail
      refine (nil_numberOperator_max _).mono ?_
      rintro e w1 ⟨rfl, rfl⟩
      go_wp2_with fail
      go_roundw
      case rel => exact ⟨1, by omega, rfl, by trivial⟩
      case measure => decide
    · go_wp2_with fail
      refine (nil_textOperator_max _).mono ?_
      rintro e w1 ⟨rfl, rfl⟩
      go_wp2_with fail
      go_roundw
      case rel => exact ⟨2, by omega, rfl, by trivial⟩
      case measure => decide
    · go_wp2_with fail
      refine (nil_listOperator_max _).mono ?_
      rintro e w1 ⟨rfl, rfl⟩
      go_wp2_with fail
      go_roundw
      case rel => exact ⟨3, by omega, rfl, by trivial⟩
      case measure => decide
    · go_wp2_with fail
      refine (nil_boolOperator_max _).mono ?_
      rintro e w1 ⟨rfl, rfl⟩
      go_wp2_with fail
      go_roundw
      case rel => exact ⟨4, by omega, rfl, by trivial⟩
      case measure => decide
    · go_wp2_with fail
      refine (order_max _).mono ?_
      rintro e w1 ⟨b1, t, x, rfl, hop⟩
      have HO := Lib.hid (And.intro b1 hop)
      clear b1 hop hc
      go_wp2_with fail
      go_ret
      exact ⟨below_then HB.out HO.out.1, _, _, rfl, HO.out.2.base HB.out.size⟩
set_option maxHeartbeats 4000000 in
theorem operator_gt (w : World) : Calls Tryz.prog 48 #[.string ⟨#[36, 103, 116]⟩] w fun e w' => Below w.heap.size w w' ∧ ∃ t x, e = .returned (.iface t x) ∧ OpAt w.heap.size w' .gt (.iface t x) := by
  have hc := row_cells (heap_alloc_new w (.cells #[.func (.func 59) #[] #[], .func (.func 60) #[] #[], .func (.func 61) #[] #[], .func (.func 62) #[] #[], .func (.func 63) #[] #[], .func (.func 64) #[] #[], .func (.func 65) #[] #[]] 94))
  have HB := Lib.hid (below1 w (.cells #[.func (.func 59) #[] #[], .func (.func 60) #[] #[], .func (.func 61) #[] #[], .func (.func 62) #[] #[], .func (.func 63) #[] #[], .func (.func 64) #[] #[], .func (.func 65) #[] #[]] 94))
  go_enter Tryz.func48, Tryz.ntmps48
  go_wp2_with fail
  generalize w.alloc _ = U at hc HB ⊢
  go_loopw [8] (fun x W => ∃ k : Nat, k ≤ 4 ∧ x = .int .i64 k ∧ U = W) (fun x _ => 7 - (intOf x).toNat)
  case atStart => exact ⟨0, by omega, rfl, rfl⟩
  case round =>
    obtain ⟨k, hk, rfl, rfl⟩ := hrel
    have hcs : k = 0 ∨ k = 1 ∨ k = 2 ∨ k = 3 ∨ k = 4 := by omega
    rcases hcs with rfl | rfl | rfl | rfl | rfl
    · go_wp2_with fail
      refine (nil_numberOperator_gt _).mono ?_
      rintro e w1 ⟨rfl, rfl⟩
      go_wp2_with fail
      go_roundw
      case rel => exact ⟨1, by omega, rfl, by trivial⟩
      case measure => decide
    · go_wp2_with fail
      refine (nil_textOperator_gt _).mono ?_
      rintro e w1 ⟨rfl, rfl⟩
      go_wp2_with fail
      go_roundw
      case rel => exact ⟨2, by omega, rfl, by trivial⟩
      case measure => decide
    · go_wp2_with fail
      refine (nil_listOperator_gt _).mono ?_
      rintro e w1 ⟨rfl, rfl⟩
      go_wp2_with fail
      go_roundw
      case rel => exact ⟨3, by omega, rfl, by trivial⟩
      case measure => decide
    · go_wp2_with fail
      refine (nil_boolOperator_gt _).mono ?_
      rintro e w1 ⟨rfl, rfl⟩
      go_wp2_with fail
      go_roundw
      case rel => exact ⟨4, by omega, rfl, by trivial⟩
      case measure => decide
    · go_wp2_with fail
      refine (order_gt _).mono ?_
      rintro e w1 ⟨b1, t, x, rfl, hop⟩
      have HO := Lib.hid (And.intro b1 hop)
      clear b1 hop hc
      go_wp2_with fail
      go_ret
      exact ⟨below_then HB.out HO.out.1, _, _, rfl, HO.out.2.base HB.out.size⟩
set_option maxHeartbeats 4000000 in
theorem operator_cond (w : World) : Calls Tryz.prog 48 #[.string ⟨#[36, 99, 111, 110, 100]⟩] w fun e w' => Below w.heap.size w w' ∧ ∃ t x, e = .returned (.iface t x) ∧ OpAt w.heap.size w' .cond (.iface t x) := by
  have hc := row_cells (heap_alloc_new w (.cells #[.func (.func 59) #[] #[], .func (.func 60) #[] #[], .func (.func 61) #[] #[], .func (.func 62) #[] #[], .func (.func 63) #[] #[], .func (.func 64) #[] #[], .func (.func 65) #[] #[]] 94))
  have HB := Lib.hid (below1 w (.cells #[.func (.func 59) #[] #[], .func (.func 60) #[] #[], .func (.func 61) #[] #[], .func (.func 62) #[] #[], .func (.func 63) #[] #[], .func (.func 64) #[] #[], .func (.func 65) #[] #[]] 94))
  go_enter Tryz.func48, Tryz.ntmps48
  go_wp2_with fail
  generalize w.alloc _ = U at hc HB ⊢
  go_loopw [8] (fun x W => ∃ k : Nat, k ≤ 3 ∧ x = .int .i64 k ∧ U = W) (fun x _ => 7 - (intOf x).toNat)
  case atStart => exact ⟨0, by omega, rfl, rfl⟩
  case round =>
    obtain ⟨k, hk, rfl, rfl⟩ := hrel
    have hcs : k = 0 ∨ k = 1 ∨ k = 2 ∨ k = 3 := by omega
    rcases hcs with rfl | rfl | rfl | rfl
    · go_wp2_with fail
      refine (nil_numberOperator_cond _).mono ?_
      rintro e w1 ⟨rfl, rfl⟩
      go_wp2_with fail
      go_roundw
      case rel => exact ⟨1, by omega, rfl, by trivial⟩
      case measure => decide
    · go_wp2_with fail
      refine (nil_textOperator_cond _).mono ?_
      rintro e w1 ⟨rfl, rfl⟩
      go_wp2_with fail
      go_roundw
      case rel => exact ⟨2, by omega, rfl, by trivial⟩
      case measure => decide
    · go_wp2_with fail
      refine (nil_listOperator_cond _).mono ?_
      rintro e w1 ⟨rfl, rfl⟩
      go_wp2_with fail
      go_roundw
      case rel => exact ⟨3, by omega, rfl, by trivial⟩
      case measure => decide
    · go_wp2_with fail
      refine (bool_cond _).mono ?_
      rintro e w1 ⟨b1, t, x, rfl, hop⟩
      have HO := Lib.hid (And.intro b1 hop)
      clear b1 hop hc
      go_wp2_with fail
      go_ret
      exact ⟨below_then HB.out HO.out.1, _, _, rfl, HO.out.2.base HB.out.size⟩
end Go.Proofs.YtcpbdmgkeljkgaaGreatDoor
