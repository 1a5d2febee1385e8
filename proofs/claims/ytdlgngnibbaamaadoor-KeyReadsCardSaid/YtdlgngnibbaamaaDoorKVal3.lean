/- The contract of keyenc's appendValue, for every value: no statement is proved here. -/
import Derived.Test.YtdlgngnibbaamaaDoorKVal2
namespace Go.Proofs.YtdlgngnibbaamaaDoor
open Go.RowKit
set_option maxRecDepth 100000

set_option maxHeartbeats 2000000 in
theorem appL_case (n : Int) (s : ByteArray) (la : Option Addr) (lc : Nat) (l : List T) (da : Option Addr) (dc dn : Nat) (B : Nat) (v : Value) (l0 : List Int) (w : World) (hB : B ≤ w.heap.size) (hv : OwnB w B v l0) (hl : l0.length + 1 + (keyL (l.map T.val)).length ≤ 140737488355328)
    (ha : InL w la l) (hlow : ∀ p ∈ T.placesL la 0 l, p.1.block < B) (hn : l.length ≤ 1759218604390) (ih : ∀ x ∈ l, AppAt x) :
    Calls Tryd.prog 80 #[v, .agg #[.int .i64 6, .int .i64 n, .string s, .slice la l.length lc, .slice da dn dc]] w fun e w' => ∃ v', e = .returned v' ∧ Grew B w w' v v' (l0 ++ (6 % 256 :: keyL (l.map T.val))) := by
  have HV := Lib.hid hv
  have HA := Lib.hid (And.intro ha hlow)
  have IH := Lib.hid ih
  clear hv ha hlow ih
  go_enter Tryd.func80, Tryd.ntmps80
  go_wp2_with (first
    | (at_builtin; refine apL _ rfl (.tmp 6) (.tmp 10) rfl B v _ rfl (HV.out.alloc _) [_] _ 1 1 rfl (by simp) rfl rfl (by omega) (Nat.le_trans hB (below1 _ _).size) ?_; intro v1 w1 hg1; have r1 := hg1.row (heap_alloc_new w _) HV.out.behind; have c1 := row_cells r1; have B1 := Lib.hid ((hg1.pre (below1 _ _)).below0 HV.out hB); have G1 := Lib.hid (hg1.pre (below1 _ _)); clear hg1 r1)
    | (go_at_call 108; refine (appList_any B v1 _ la lc l w1 ?_ G1.out.own ?_ ?_ HA.out.2 hn IH.out).mono ?_; (exact Nat.le_trans hB G1.out.size); (rw [List.length_append, List.length_singleton]; omega); (exact HA.out.1.low HA.out.2 B1.out); rintro e w2 ⟨v2, rfl, hg2⟩; have G2 := Lib.hid (G1.out.trans hg2); clear hg2))
  go_ret
  have h := G2.out
  rw [List.append_assoc] at h
  exact ⟨_, rfl, h⟩
set_option maxHeartbeats 2000000 in
theorem appD_case (n : Int) (s : ByteArray) (la : Option Addr) (lc : Nat) (l : List (ByteArray × T)) (da : Option Addr) (dc dn : Nat) (B : Nat) (v : Value) (l0 : List Int) (w : World) (hB : B ≤ w.heap.size) (hv : OwnB w B v l0) (hl : l0.length + 1 + (keyD (l.map fun f => (f.1, f.2.val))).length ≤ 140737488355328)
    (ha : InD w la l) (hlow : ∀ p ∈ T.placesD la 0 l, p.1.block < B) (hn : l.length ≤ 1759218604390) (ih : ∀ x ∈ l, AppAt x.2) :
    Calls Tryd.prog 80 #[v, .agg #[.int .i64 5, .int .i64 n, .string s, .slice da dn dc, .slice la l.length lc]] w fun e w' => ∃ v', e = .returned v' ∧ Grew B w w' v v' (l0 ++ (5 % 256 :: keyD (l.map fun f => (f.1, f.2.val)))) := by
  have HV := Lib.hid hv
  have HA := Lib.hid (And.intro ha hlow)
  have IH := Lib.hid ih
  clear hv ha hlow ih
  go_enter Tryd.func80, Tryd.ntmps80
  go_wp2_with (first
    | (at_builtin; refine apL _ rfl (.tmp 6) (.tmp 10) rfl B v _ rfl (HV.out.alloc _) [_] _ 1 1 rfl (by simp) rfl rfl (by omega) (Nat.le_trans hB (below1 _ _).size) ?_; intro v1 w1 hg1; have r1 := hg1.row (heap_alloc_new w _) HV.out.behind; have c1 := row_cells r1; have B1 := Lib.hid ((hg1.pre (below1 _ _)).below0 HV.out hB); have G1 := Lib.hid (hg1.pre (below1 _ _)); clear hg1 r1)
    | (go_at_call 109; refine (appDoc_any B v1 _ la lc l w1 ?_ G1.out.own ?_ ?_ HA.out.2 hn IH.out).mono ?_; (exact Nat.le_trans hB G1.out.size); (rw [List.length_append, List.length_singleton]; omega); (exact HA.out.1.low HA.out.2 B1.out); rintro e w2 ⟨v2, rfl, hg2⟩; have G2 := Lib.hid (G1.out.trans hg2); clear hg2))
  go_ret
  have h := G2.out
  rw [List.append_assoc] at h
  exact ⟨_, rfl, h⟩

theorem appVal_any (t : T) : t.ok → AppAt t := by
  induction t using T.ind with
  | h k n s la lc l da dc d ihl ihd =>
  intro ok B v l0 w hB hv hl hin hlow
  obtain ⟨k0, k1, n0, n1, hs, hl1, hl2, hd1, hd2, okl, okd⟩ := ok.parts
  obtain ⟨inl, ind⟩ := hin.parts
  have lowl : ∀ p ∈ T.placesL la 0 l, p.1.block < B := fun p hp => hlow p (by simp [T.places, hp])
  have lowd : ∀ p ∈ T.placesD da 0 d, p.1.block < B := fun p hp => hlow p (by simp [T.places, hp])
  rw [T.val_mk, keyV, List.length_cons] at hl
  rw [T.val_mk, keyV]
  show Calls _ _ #[v, .agg #[.int .i64 k, .int .i64 n, .string s, .slice la l.length lc, .slice da d.length dc]] _ _
  by_cases h3 : k = 3 ∨ k = 10
  · rw [if_pos h3] at hl ⊢
    rw [beB_len] at hl
    exact appNum_case k n s la lc l.length da dc d.length h3 ⟨n0, n1⟩ B v l0 w hB hv (by omega)
  rw [if_neg h3] at hl ⊢
  by_cases h9 : k = 9
  · rw [if_pos h9] at hl ⊢
    exact appBool_case k n s la lc l.length da dc d.length h9 B v l0 w hB hv (by simpa using hl)
  rw [if_neg h9] at hl ⊢
  by_cases h4 : k = 4 ∨ k = 7
  · rw [if_pos h4] at hl ⊢
    exact appText_case k n s la lc l.length da dc d.length h4 B v l0 w hB hv (by omega)
  rw [if_neg h4] at hl ⊢
  by_cases h8 : k = 8
  · rw [if_pos h8] at hl ⊢
    rw [bsI_len] at hl
    exact appId_case k n s la lc l.length da dc d.length h8 B v l0 w hB hv (by omega)
  rw [if_neg h8] at hl ⊢
  by_cases h6 : k = 6
  · rw [if_pos h6] at hl ⊢
    subst h6
    exact appL_case n s la lc l da dc d.length B v l0 w hB hv (by omega) inl lowl (by omega) fun x hx => ihl x hx (okl x hx)
  rw [if_neg h6] at hl ⊢
  by_cases h5 : k = 5
  · rw [if_pos h5] at hl ⊢
    subst h5
    exact appD_case n s da dc d la lc l.length B v l0 w hB hv (by omega) ind lowd (by omega) fun x hx => ihd x hx (okd x hx).2
  rw [if_neg h5] at hl ⊢
  exact appOther_case k n s la lc l.length da dc d.length ⟨h3, h9, h4, h8, h6, h5⟩ B v l0 w hB hv (by simpa using hl)
end Go.Proofs.YtdlgngnibbaamaaDoor
