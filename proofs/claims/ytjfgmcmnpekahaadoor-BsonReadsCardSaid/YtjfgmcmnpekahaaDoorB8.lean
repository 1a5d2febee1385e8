/- The document's own numbers of eight bytes: no statement is proved here. -/
import Derived.Test.YtjfgmcmnpekahaaDoorBKind
namespace Go.Proofs.YtjfgmcmnpekahaaDoor
open Go.RowKit
set_option maxRecDepth 100000
theorem info_byte : (Tryd.prog.info? 5).map (fun i => (i.zero, i.size, i.bytes)) = some (some (.int .u8 0), 1, 1) := by kernel_rfl
theorem leB_add (k : Nat) (n m : Int) : leB k (n + 256 ^ k * m) = leB k n := by
  induction k generalizing n with
  | zero => rfl
  | succ k ih =>
    have e : n + 256 ^ (k + 1) * m = n + 256 * (256 ^ k * m) := by rw [Int.pow_succ]; simp only [Int.mul_comm, Int.mul_left_comm]
    have h1 : (n + 256 * (256 ^ k * m)) % 256 = n % 256 := by omega
    have h2 : (n + 256 * (256 ^ k * m)) / 256 = n / 256 + 256 ^ k * m := by omega
    rw [e, leB, leB, h1, h2, ih]
set_option maxHeartbeats 2000000 in
theorem eight_any (n : Int) (w : World) :
    Calls Tryd.prog 38 #[.int .i64 n] w fun e w' => ∃ g cap, e = .returned (.slice (some ⟨g, 0, none⟩) 8 cap) ∧ w'.ownsRow w.heap.size 5 1 (.slice (some ⟨g, 0, none⟩) 8 cap) 8 (btV (leB 8 n)) ∧ Below w.heap.size w w' := by
  obtain ⟨i0, hi0, hz0, hz1, hz2⟩ := info_parts info_byte
  have I0 := Lib.hid (And.intro hi0 (And.intro hz0 (And.intro hz1 hz2)))
  clear hi0 hz0 hz1 hz2
  have hU0 : (0 : Int) ≤ n % 18446744073709551616 := by omega
  have hU1 : n % 18446744073709551616 < 18446744073709551616 := by omega
  have hUw : IntKind.u64.wrap n = n % 18446744073709551616 := rfl
  obtain ⟨U, hU⟩ : ∃ U, U = n % 18446744073709551616 := ⟨_, rfl⟩
  rw [← hU] at hU0 hU1 hUw
  have hL : leB 8 U = leB 8 n := by
    have e : n = U + 256 ^ 8 * (n / 18446744073709551616) := by omega
    rw [e, leB_add]
  go_enter Tryd.func38, Tryd.ntmps38
  go_wp2_with fail
  go_loopw [3, 4, 5] (fun v u i wr => ∃ (k : Nat) (x : Int), k ≤ 8 ∧ i = .int .i64 k ∧ u = .int .u64 x ∧ 0 ≤ x ∧ x < 18446744073709551616 ∧ x = U / 256 ^ k ∧ wr.ownsRow w.heap.size 5 1 v k (btV (leB k U)) ∧ Below w.heap.size w wr) (fun _ _ i _ => 8 - (intOf i).toNat)
  case atStart => exact ⟨0, U, by omega, rfl, by rw [hU], hU0, hU1, by simp, World.ownsRow_nil _ _ _ _, Below.refl _ _⟩
  case round =>
    obtain ⟨k, x, hk, rfl, rfl, hx0, hx1, hspl, hown, hbel⟩ := hrel
    have HO := Lib.hid hown
    have HS := Lib.hid hspl
    clear hown hspl
    by_cases h1 : k < 8
    · go_wp2_with (at_builtin; refine wpList_append_own _ rfl (.tmp 12) (.tmp 16) 28 rfl w.heap.size 5 i0 _ 1 1 Tryd.underlying28 I0.out.1 I0.out.2.1 I0.out.2.2.1 I0.out.2.2.2 rfl (by decide) _ k _ rfl (HO.out.alloc _) ⟨wr.heap.size, 0, none⟩ 1 1 [.int .u8 (x % 256)] rfl rfl ((World.ownsRow_lit (size := 1) (e := 5) wr #[.int .u8 (x % 256)] 1 (Nat.le_refl _) (by decide) rfl).cells rfl) (by intro u hu; simp at hu; subst hu; rfl) (by unfold maxLen; omega) (by omega) (Nat.le_trans hbel.size (below1 _ _).size) ?_; intro v' w1 own1 grow1 _; have O1 := Lib.hid own1; have G1 := Lib.hid grow1; clear own1 grow1)
      go_roundw
      case rel =>
        refine ⟨k + 1, x / 256, by omega, by go_num, by go_num, by omega, by omega, ?_, ?_, ?_⟩
        · rw [HS.out, Int.ediv_ediv_of_nonneg (Int.pow_nonneg (by omega)), Int.pow_succ]
        · have h := O1.out
          rw [leB_snoc, ← HS.out, btV, List.map_append]
          exact h
        · exact (below_then hbel (below1 _ _)).grown G1.out (Nat.le_trans hbel.size (below1 _ _).size) (fun g hg => (HO.out.lt g hg).1)
      case measure => simp [intOf]; omega
    · have hk8 : k = 8 := by omega
      subst hk8
      go_wp2_with fail
      go_ret
      have h := HO.out
      rw [hL] at h
      have HH := Lib.hid h
      obtain ⟨-, h2⟩ := h
      rcases h2 with ⟨-, h3⟩ | ⟨g, cap, cur, rfl, -⟩
      · omega
      · exact ⟨g, cap, rfl, HH.out, hbel⟩
end Go.Proofs.YtjfgmcmnpekahaaDoor
