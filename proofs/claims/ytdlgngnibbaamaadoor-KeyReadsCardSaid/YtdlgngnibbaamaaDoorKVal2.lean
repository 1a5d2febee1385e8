/- The contract of keyenc's appendValue: no statement is proved here. -/
import Derived.Test.YtdlgngnibbaamaaDoorKVal
namespace Go.Proofs.YtdlgngnibbaamaaDoor
open Go.RowKit
set_option maxRecDepth 100000

theorem be8_parts (X : Int) : ∃ b0 b1 b2 b3 b4 b5 b6 b7, beB 8 X = [b0, b1, b2, b3, b4, b5, b6, b7] := ⟨_, _, _, _, _, _, _, _, by simp [beB, leB]; exact ⟨rfl, rfl, rfl, rfl, rfl, rfl, rfl, rfl⟩⟩
theorem appNum_case (k n : Int) (s : ByteArray) (la : Option Addr) (lc ln : Nat) (da : Option Addr) (dc dn : Nat) (hk : k = 3 ∨ k = 10) (hn : okInt n) (B : Nat) (v : Value) (l : List Int) (w : World) (hB : B ≤ w.heap.size) (hv : OwnB w B v l) (hl : l.length + 9 ≤ 140737488355328) :
    Calls Tryd.prog 80 #[v, .agg #[.int .i64 k, .int .i64 n, .string s, .slice la ln lc, .slice da dn dc]] w fun e w' => ∃ v', e = .returned v' ∧ Grew B w w' v v' (l ++ (k % 256 :: beB 8 (n + 9223372036854775808))) := by
  have HV := Lib.hid hv
  have HW := Lib.hid (widened_any n hn)
  obtain ⟨b0, b1, b2, b3, b4, b5, b6, b7, hb⟩ := be8_parts (n + 9223372036854775808)
  rw [hb] at HW ⊢
  clear hv hb
  rcases hk with rfl | rfl
  all_goals (
    go_enter Tryd.func80, Tryd.ntmps80
    go_wp2_with (first
      | (at_builtin; refine apL _ rfl (.tmp 6) (.tmp 10) rfl B v _ rfl (HV.out.alloc _) [_] _ 1 1 rfl (by simp) rfl rfl (by omega) (Nat.le_trans hB (below1 _ _).size) ?_; intro v1 w1 hg1; have r1 := hg1.row (heap_alloc_new w _) HV.out.behind; have c1 := row_cells r1; have G1 := Lib.hid (hg1.pre (below1 _ _)); clear hg1 r1)
      | (go_at_call 106; refine (HW.out w1).mono ?_; rintro e w2 ⟨rfl, hb2⟩; have G2 := Lib.hid (G1.out.post hb2); have hz2 := hb2.size; clear hb2; simp only [btV, List.map_cons, List.map_nil])
      | (at_builtin; refine wpList_apB rfl (.tmp 20) (.tmp 21) rfl B v1 _ rfl (G2.out.own.alloc _) ⟨w2.heap.size, 0, none⟩ 8 8 [b0, b1, b2, b3, b4, b5, b6, b7] rfl rfl (news_at _ _ _ _ rfl) (by simp; omega) (Nat.le_trans hB (Nat.le_trans G2.out.size (below1 _ _).size)) ?_; intro v3 w3 hg3; have G3 := Lib.hid (G2.out.trans (hg3.pre (below1 _ _))); clear hg3)))
  all_goals (
    go_ret
    have h := G3.out
    rw [List.append_assoc] at h
    exact ⟨_, rfl, h⟩)
set_option maxHeartbeats 2000000 in
theorem appBool_case (k n : Int) (s : ByteArray) (la : Option Addr) (lc ln : Nat) (da : Option Addr) (dc dn : Nat) (hk : k = 9) (B : Nat) (v : Value) (l0 : List Int) (w : World) (hB : B ≤ w.heap.size) (hv : OwnB w B v l0) (hl : l0.length + 2 ≤ 140737488355328) :
    Calls Tryd.prog 80 #[v, .agg #[.int .i64 k, .int .i64 n, .string s, .slice la ln lc, .slice da dn dc]] w fun e w' => ∃ v', e = .returned v' ∧ Grew B w w' v v' (l0 ++ (k % 256 :: [n % 256])) := by
  have HV := Lib.hid hv
  clear hv
  rcases hk with rfl
  all_goals (
    go_enter Tryd.func80, Tryd.ntmps80
    go_wp2_with (first
      | (at_builtin; refine apL _ rfl (.tmp 6) (.tmp 10) rfl B v _ rfl (HV.out.alloc _) [_] _ 1 1 rfl (by simp) rfl rfl (by omega) (Nat.le_trans hB (below1 _ _).size) ?_; intro v1 w1 hg1; have r1 := hg1.row (heap_alloc_new w _) HV.out.behind; have c1 := row_cells r1; have G1 := Lib.hid (hg1.pre (below1 _ _)); clear hg1 r1)
      | (at_builtin; refine apL _ rfl (.tmp 25) (.tmp 29) rfl B v1 _ rfl G1.out.own [_] _ 1 1 rfl rfl rfl rfl (by rw [List.length_append, List.length_singleton]; omega) (Nat.le_trans hB G1.out.size) ?_; intro v2 w2 hg2; have G2 := Lib.hid (G1.out.trans hg2); clear hg2))
    go_ret
    have h := G2.out
    rw [List.append_assoc] at h
    exact ⟨_, rfl, h⟩)
set_option maxHeartbeats 2000000 in
theorem appText_case (k n : Int) (s : ByteArray) (la : Option Addr) (lc ln : Nat) (da : Option Addr) (dc dn : Nat) (hk : k = 4 ∨ k = 7) (B : Nat) (v : Value) (l0 : List Int) (w : World) (hB : B ≤ w.heap.size) (hv : OwnB w B v l0) (hl : l0.length + 1 + (keyT (bsI s)).length ≤ 140737488355328) :
    Calls Tryd.prog 80 #[v, .agg #[.int .i64 k, .int .i64 n, .string s, .slice la ln lc, .slice da dn dc]] w fun e w' => ∃ v', e = .returned v' ∧ Grew B w w' v v' (l0 ++ (k % 256 :: keyT (bsI s))) := by
  have HV := Lib.hid hv
  clear hv
  rcases hk with rfl | rfl
  all_goals (
    go_enter Tryd.func80, Tryd.ntmps80
    go_wp2_with (first
      | (at_builtin; refine apL _ rfl (.tmp 6) (.tmp 10) rfl B v _ rfl (HV.out.alloc _) [_] _ 1 1 rfl (by simp) rfl rfl (by omega) (Nat.le_trans hB (below1 _ _).size) ?_; intro v1 w1 hg1; have r1 := hg1.row (heap_alloc_new w _) HV.out.behind; have c1 := row_cells r1; have G1 := Lib.hid (hg1.pre (below1 _ _)); clear hg1 r1)
      | (go_at_call 107; refine (appText_any B v1 _ s w1 ?_ G1.out.own ?_).mono ?_; (exact Nat.le_trans hB G1.out.size); (rw [List.length_append, List.length_singleton]; omega); rintro e w2 ⟨v2, rfl, hg2⟩; have G2 := Lib.hid (G1.out.trans hg2); clear hg2))
    go_ret
    have h := G2.out
    rw [List.append_assoc] at h
    exact ⟨_, rfl, h⟩)
set_option maxHeartbeats 2000000 in
theorem appId_case (k n : Int) (s : ByteArray) (la : Option Addr) (lc ln : Nat) (da : Option Addr) (dc dn : Nat) (hk : k = 8) (B : Nat) (v : Value) (l0 : List Int) (w : World) (hB : B ≤ w.heap.size) (hv : OwnB w B v l0) (hl : l0.length + 1 + s.size ≤ 140737488355328) :
    Calls Tryd.prog 80 #[v, .agg #[.int .i64 k, .int .i64 n, .string s, .slice la ln lc, .slice da dn dc]] w fun e w' => ∃ v', e = .returned v' ∧ Grew B w w' v v' (l0 ++ (k % 256 :: bsI s)) := by
  have HV := Lib.hid hv
  clear hv
  rcases hk with rfl
  all_goals (
    go_enter Tryd.func80, Tryd.ntmps80
    go_wp2_with (first
      | (at_builtin; refine apL _ rfl (.tmp 6) (.tmp 10) rfl B v _ rfl (HV.out.alloc _) [_] _ 1 1 rfl (by simp) rfl rfl (by omega) (Nat.le_trans hB (below1 _ _).size) ?_; intro v1 w1 hg1; have r1 := hg1.row (heap_alloc_new w _) HV.out.behind; have c1 := row_cells r1; have G1 := Lib.hid (hg1.pre (below1 _ _)); clear hg1 r1)
      | (at_builtin; refine apS rfl (.tmp 40) (.tmp 42) rfl B v1 _ rfl G1.out.own s rfl (by rw [List.length_append, List.length_singleton]; omega) (Nat.le_trans hB G1.out.size) ?_; intro v2 w2 hg2; have G2 := Lib.hid (G1.out.trans hg2); clear hg2))
    go_ret
    have h := G2.out
    rw [List.append_assoc] at h
    exact ⟨_, rfl, h⟩)
set_option maxHeartbeats 2000000 in
theorem appOther_case (k n : Int) (s : ByteArray) (la : Option Addr) (lc ln : Nat) (da : Option Addr) (dc dn : Nat) (hk : ¬ (k = 3 ∨ k = 10) ∧ k ≠ 9 ∧ ¬ (k = 4 ∨ k = 7) ∧ k ≠ 8 ∧ k ≠ 6 ∧ k ≠ 5) (B : Nat) (v : Value) (l0 : List Int) (w : World) (hB : B ≤ w.heap.size) (hv : OwnB w B v l0) (hl : l0.length + 1 ≤ 140737488355328) :
    Calls Tryd.prog 80 #[v, .agg #[.int .i64 k, .int .i64 n, .string s, .slice la ln lc, .slice da dn dc]] w fun e w' => ∃ v', e = .returned v' ∧ Grew B w w' v v' (l0 ++ [k % 256]) := by
  have HV := Lib.hid hv
  have b3 : ((k : Int) == 3) = false := by simp; omega
  have b4 : ((k : Int) == 4) = false := by simp; omega
  have b5 : ((k : Int) == 5) = false := by simp; omega
  have b6 : ((k : Int) == 6) = false := by simp; omega
  have b7 : ((k : Int) == 7) = false := by simp; omega
  have b8 : ((k : Int) == 8) = false := by simp; omega
  have b9 : ((k : Int) == 9) = false := by simp; omega
  have b10 : ((k : Int) == 10) = false := by simp; omega
  clear hv hk
  go_enter Tryd.func80, Tryd.ntmps80
  go_wp2_with (first
    | (at_builtin; refine apL _ rfl (.tmp 6) (.tmp 10) rfl B v _ rfl (HV.out.alloc _) [_] _ 1 1 rfl (by simp) rfl rfl (by omega) (Nat.le_trans hB (below1 _ _).size) ?_; intro v1 w1 hg1; have r1 := hg1.row (heap_alloc_new w _) HV.out.behind; have c1 := row_cells r1; have G1 := Lib.hid (hg1.pre (below1 _ _)); clear hg1 r1))
  go_ret
  exact ⟨_, rfl, G1.out⟩
end Go.Proofs.YtdlgngnibbaamaaDoor
