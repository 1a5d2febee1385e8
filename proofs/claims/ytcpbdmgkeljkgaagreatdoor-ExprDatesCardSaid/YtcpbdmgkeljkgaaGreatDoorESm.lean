/- Small functions of layer 5. No statement is proved here. -/
import Derived.Test.YtcpbdmgkeljkgaaGreatDoorEPure
import Derived.Test.YtcpbdmgkeljkgaaGreatDoorGet
import Derived.Lib.Strings
namespace Go.Proofs.YtcpbdmgkeljkgaaGreatDoor
open Go.RowKit
set_option maxRecDepth 100000

/-- An answer's cells. -/
def scal (k n : Int) : Value := .agg #[.int .i64 k, .int .i64 n, .string ⟨#[]⟩, .slice none 0 0, .slice none 0 0]
theorem number_any (n : Int) (w : World) : Calls Tryz.prog 99 #[.int .i64 n] w fun e w' => e = .returned (scal 3 n) ∧ Below w.heap.size w w' := by
  go_enter Tryz.func99, Tryz.ntmps99
  go_wp2_with fail
  refine bodyPost_ret (v := scal 3 n) (by simp [scal, results, Tryz.results99, go_sem]) rfl ⟨rfl, below1 _ _⟩
theorem null_any (w : World) : Calls Tryz.prog 180 #[] w fun e w' => e = .returned (scal 2 0) ∧ Below w.heap.size w w' := by
  go_enter Tryz.func180, Tryz.ntmps180
  go_wp2_with fail
  refine bodyPost_ret (v := scal 2 0) (by simp [scal, results, Tryz.results180, go_sem]) rfl ⟨rfl, below1 _ _⟩
theorem truth_any (b : Bool) (w : World) : Calls Tryz.prog 103 #[.bool b] w fun e w' => e = .returned (scal 9 (if b then 1 else 0)) ∧ Below w.heap.size w w' := by
  go_enter Tryz.func103, Tryz.ntmps103
  cases b
  · go_wp2_with fail
    refine bodyPost_ret (v := scal 9 0) (by simp [scal, results, Tryz.results103, go_sem]) rfl ⟨rfl, below2 _ _ _⟩
  · go_wp2_with fail
    refine bodyPost_ret (v := scal 9 1) (by simp [scal, results, Tryz.results103, go_sem]) rfl ⟨rfl, below2 _ _ _⟩
theorem tooBig_any (n : Int) (w : World) : Calls Tryz.prog 121 #[.int .i64 n] w fun e w' => e = .returned (.int .i64 (if 65536 < n then 3 else 0)) ∧ w' = w := by
  go_enter Tryz.func121, Tryz.ntmps121
  by_cases h : 65536 < n
  · go_wp2_with fail
    go_ret
    exact ⟨rfl, rfl⟩
  · go_wp2_with fail
    go_ret
    exact ⟨rfl, rfl⟩
def misT : T → Bool
  | .mk k n s _ _ l _ _ d => decide (k = 0) && decide (n = 0) && decide (s = ⟨#[]⟩) && decide (l.length = 0) && decide (d.length = 0)
set_option maxHeartbeats 4000000 in
theorem missing_any (t : T) (w : World) : Calls Tryz.prog 179 #[t.arg] w fun e w' => e = .returned (.bool (misT t)) ∧ Below w.heap.size w w' := by
  obtain ⟨k, n, s, la, lc, l, da, dc, d⟩ := t
  show Calls _ _ #[.agg #[.int .i64 k, .int .i64 n, .string s, .slice la l.length lc, .slice da d.length dc]] _ _
  go_enter Tryz.func179, Tryz.ntmps179
  by_cases hk : k = 0
  case neg =>
    go_wp2_with fail
    go_ret
    exact ⟨by simp [misT, hk], below1 _ _⟩
  subst hk
  by_cases hn : n = 0
  case neg =>
    go_wp2_with fail
    go_ret
    exact ⟨by simp [misT, hn], below1 _ _⟩
  subst hn
  by_cases hs : s = ⟨#[]⟩
  case neg =>
    have hs2 : ¬ s = ByteArray.empty := hs
    have hs3 : ¬ s.toList = [] := fun h => hs (by rw [Lib.toList_data] at h; obtain ⟨⟨l⟩⟩ := s; simp at h; subst h; rfl)
    have hs4 : s.toList.isEmpty = false := by cases h : s.toList with | nil => exact absurd h hs3 | cons => rfl
    go_wp2_with fail
    go_ret
    exact ⟨by simp [misT, hs], below1 _ _⟩
  subst hs
  by_cases hl : l.length = 0
  case neg =>
    have hl2 : ((l.length : Int) == 0) = false := by simpa using hl
    go_wp2_with fail
    go_ret
    exact ⟨by simp [misT]; intro h; simp [h] at hl, below1 _ _⟩
  have hl2 : ((l.length : Int) == 0) = true := by simpa using hl
  by_cases hd : d.length = 0
  · have hd2 : ((d.length : Int) == 0) = true := by simpa using hd
    go_wp2_with fail
    go_ret
    refine ⟨?_, below1 _ _⟩
    rw [misT, decide_eq_true hl, decide_eq_true hd]
    rfl
  · have hd2 : ((d.length : Int) == 0) = false := by simpa using hd
    go_wp2_with fail
    go_ret
    refine ⟨?_, below1 _ _⟩
    rw [misT, decide_eq_true hl, decide_eq_false hd]
    rfl
end Go.Proofs.YtcpbdmgkeljkgaaGreatDoor
