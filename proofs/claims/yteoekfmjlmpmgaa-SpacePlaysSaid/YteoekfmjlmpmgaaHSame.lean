/- Two lists of numbers, are they the same. No statement is proved here. -/
import Derived.Test.YteoekfmjlmpmgaaHTwo
import Derived.Test.YteoekfmjlmpmgaaStepC
namespace Go.Proofs.Yteoekfmjlmpmgaa
open Go.RowKit
set_option maxRecDepth 100000

set_option maxHeartbeats 4000000 in
/-- The same list twice. -/
theorem same_any (a b : Option Addr) (n c d : Nat) (l : List Int) (w : World) (ha : InI w a l) (hb : InI w b l) (hn : l.length = n) (hs : n ≤ 17592186044416) :
    Calls Try.prog 10 #[.slice a n c, .slice b n d] w fun e w' => e = .returned (.bool true) ∧ Below w.heap.size w w' := by
  have HA := Lib.hid (And.intro ha (And.intro hb hn))
  clear ha hb hn
  go_enter Try.func10, Try.ntmps10
  go_wp2_with fail
  go_loopw [5] (fun i wr => ∃ k : Nat, k ≤ n ∧ i = .int .i64 (k : Int) ∧ Hid (Below w.heap.size w wr)) (fun i _ => n - (intOf i).toNat)
  case atStart => exact ⟨0, Nat.zero_le _, rfl, Lib.hid (Below.refl _ _)⟩
  case round =>
    obtain ⟨k, hk, rfl, HB⟩ := hrel
    by_cases hlt : k < n
    · obtain ⟨b1, o1, x, rfl, hx, c1⟩ := (HA.out.1.then_ HB.out).one (i := k) (by rw [HA.out.2.2]; exact hlt)
      obtain ⟨b2, o2, y, rfl, hy, c2⟩ := (HA.out.2.1.then_ HB.out).one (i := k) (by rw [HA.out.2.2]; exact hlt)
      rw [hx] at hy
      injection hy with hy
      subst hy

      clear hx
      go_wp2_with fail
      go_quiet (fail)
      go_wp2_with fail
      go_roundw
      case rel => exact ⟨k + 1, by omega, by go_num, Lib.hid ⟨HB.out.os, HB.out.tape, HB.out.output, HB.out.size, HB.out.block⟩⟩
      case measure => simp [intOf]; omega
    · go_wp2_with fail
      go_ret
      exact ⟨rfl, HB.out⟩
end Go.Proofs.Yteoekfmjlmpmgaa
