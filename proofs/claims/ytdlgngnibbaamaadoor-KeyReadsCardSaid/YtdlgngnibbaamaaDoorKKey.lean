/- The contract of keyenc's Key: no statement is proved here. -/
import Derived.Test.YtdlgngnibbaamaaDoorKRow2
namespace Go.Proofs.YtdlgngnibbaamaaDoor
open Go.RowKit
set_option maxRecDepth 100000

/-- The error of the first value that is wrong. -/
def wrongL : List V → Int
  | [] => 0
  | x :: r => if rightOf x = 0 then wrongL r else rightOf x
theorem wrongL_step {l : List V} {k : Nat} {x : V} (hx : l[k]? = some x) : wrongL (l.drop k) = if rightOf x = 0 then wrongL (l.drop (k + 1)) else rightOf x := by
  obtain ⟨h1, rfl⟩ := List.getElem?_eq_some_iff.1 hx
  rw [List.drop_eq_getElem_cons h1, wrongL]
theorem wrongL_all {l : List V} (h : wrongL l = 0) : ∀ x ∈ l, rightOf x = 0 := by
  induction l with
  | nil => simp
  | cons x r ih =>
    rw [wrongL] at h
    split at h
    · intro y hy
      rcases List.mem_cons.1 hy with rfl | hy
      · assumption
      · exact ih h y hy
    · contradiction
/-- A row's key, or why it has none. -/
def keyOf (l : List V) (d : List Bool) : Int × List Int :=
  if ¬ (1 ≤ l.length ∧ l.length ≤ 4) ∨ d.length ≠ l.length then (1, []) else
  if wrongL l = 0 then (if 1000 < (keyR l d).length then (30, []) else (0, keyR l d)) else (wrongL l, [])
def KeyTo (p : Int × List Int) (w : World) (e : Ending) (w' : World) : Prop := ∃ v', e = .returned (.tuple #[v', .int .i64 p.1]) ∧ OwnB w' w.heap.size v' p.2 ∧ Below w.heap.size w w'
theorem mayBeRow_any (n : Nat) (hn : n ≤ 9223372036854775807) (w : World) : Calls Tryd.prog 48 #[.int .i64 n] w fun e w' => e = .returned (.bool (decide (1 ≤ n ∧ n ≤ 4))) ∧ w = w' := by
  by_cases h1 : 1 ≤ n
  · by_cases h2 : n ≤ 4
    · go_enter Tryd.func48, Tryd.ntmps48
      go_wp2_with fail
      go_ret
      exact ⟨ret_bool (by rw [Bool.eq_iff_iff]; simp <;> omega), rfl⟩
    · go_enter Tryd.func48, Tryd.ntmps48
      go_wp2_with fail
      go_ret
      exact ⟨ret_bool (by rw [Bool.eq_iff_iff]; simp <;> omega), rfl⟩
  · go_enter Tryd.func48, Tryd.ntmps48
    go_wp2_with fail
    go_ret
    exact ⟨ret_bool (by simp), rfl⟩
theorem low_of_in {w : World} {a : Option Addr} {l : List T} (h : InL w a l) : ∀ p ∈ T.placesL a 0 l, p.1.block < w.heap.size := fun p hp => cell_lt (h p hp)
theorem low_of_inF {w : World} {a : Option Addr} {l : List Bool} (h : InF w a l) : ∀ b o, a = some ⟨b, o, none⟩ → 1 ≤ l.length → b < w.heap.size := fun b o e h1 => by
  obtain ⟨b', o', e', hc⟩ := h 0 _ (List.getElem?_eq_getElem h1)
  rw [e] at e'
  injection e' with e'
  injection e' with e1 e2
  subst e1
  exact cell_lt hc

set_option maxHeartbeats 4000000 in
theorem key_any (la : Option Addr) (ca : Nat) (l : List T) (lb : Option Addr) (cb : Nat) (d : List Bool) (w : World) (ha : InL w la l) (hf : InF w lb d) (hn : l.length ≤ 1759218604390) (hok : ∀ x ∈ l, x.ok) (hT : Tabs w) :
    Calls Tryd.prog 30 #[.slice la l.length ca, .slice lb d.length cb] w (KeyTo (keyOf (l.map T.val) d) w) := by
  have HA := Lib.hid (And.intro ha hf)
  have OK := Lib.hid hok
  have HT := Lib.hid hT
  clear ha hf hok hT
  by_cases h1 : 1 ≤ l.length ∧ l.length ≤ 4
  · have hm := decide_eq_true h1
    by_cases h2 : d.length = l.length
    · rw [h2]
      have HK := Lib.hid (show keyOf (l.map T.val) d = _ by unfold keyOf; rw [List.length_map, if_neg (by simp [h1, h2])])
      have HD := Lib.hid h2
      obtain ⟨h3, h4⟩ := h1
      clear h2
      go_enter Tryd.func30, Tryd.ntmps30
      go_wp2_with (first | (go_at_call 48; refine (mayBeRow_any l.length (by omega) _).mono ?_; rw [hm]; rintro e w1 ⟨rfl, rfl⟩))
      go_loopw [23] (fun i wr => ∃ k : Nat, k ≤ l.length ∧ i = .int .i64 k ∧ wrongL (l.map T.val) = wrongL ((l.map T.val).drop k) ∧ Below w.heap.size w wr) (fun i _ => l.length - (intOf i).toNat)
      case atStart => exact ⟨0, by omega, rfl, rfl, Below.refl _ _⟩
      case round =>
        obtain ⟨k, hk, rfl, heq, hbel⟩ := hrel
        have HE := Lib.hid (And.intro heq hbel)
        by_cases hkl : k < l.length
        · obtain ⟨b, o, k1, n1, s1, la1, lc1, l1, da1, dc1, d1, rfl, hx, hix, x0, x1, x2, x3, x4⟩ := (HA.out.1.then_ hbel).five hkl
          have hvx : (l.map T.val)[k]? = some (T.val (.mk k1 n1 s1 la1 lc1 l1 da1 dc1 d1)) := by rw [List.getElem?_map, hx]; rfl
          have HS := Lib.hid (heq.trans (wrongL_step hvx))
          have HR := Lib.hid (right_any _ (OK.out _ (List.mem_of_getElem? hx)) (wr.alloc (.cells #[.int .i64 k1, .int .i64 n1, .string s1, .slice la1 l1.length lc1, .slice da1 d1.length dc1] 25)) (hix.then_ (below1 _ _)) ((HT.out.then_ hbel).then_ (below1 _ _)))
          generalize hrv : rightOf (T.val (.mk k1 n1 s1 la1 lc1 l1 da1 dc1 d1)) = rv at HS HR
          clear heq hbel hx hix hvx hrv
          by_cases hr0 : rv = 0
          · subst hr0
            go_wp2_with (first | (go_at_call 27; refine HR.out.mono ?_; rintro e w2 ⟨rfl, hb2⟩; have B2 := Lib.hid (below_then (below1 wr (.cells #[.int .i64 k1, .int .i64 n1, .string s1, .slice la1 l1.length lc1, .slice da1 d1.length dc1] 25)) hb2); clear hb2))
            go_roundw
            case rel => exact ⟨k + 1, by omega, by go_num, by rw [HS.out]; simp, below_then HE.out.2 B2.out⟩
            case measure => simp [intOf]; omega
          · have hne : ((rv : Int) != 0) = true := by simp [hr0]
            have HS2 := Lib.hid (HS.out.trans (if_neg hr0))
            have HN := Lib.hid hr0
            clear hr0
            go_wp2_with (first | (go_at_call 27; refine HR.out.mono ?_; rintro e w2 ⟨rfl, hb2⟩; have B2 := Lib.hid (below_then (below1 wr (.cells #[.int .i64 k1, .int .i64 n1, .string s1, .slice la1 l1.length lc1, .slice da1 d1.length dc1] 25)) hb2); clear hb2))
            go_ret2
            rw [HK.out, HS2.out, if_neg HN.out]
            exact ⟨_, rfl, OwnB.nil _ _, below_then HE.out.2 B2.out⟩
        · have h0 : wrongL (l.map T.val) = 0 := by rw [heq, List.drop_eq_nil_of_le (by rw [List.length_map]; omega), wrongL]
          have HR := Lib.hid (appRow_any w.heap.size la ca l lb cb d wr hbel.size (HA.out.1.then_ hbel) (HA.out.2.then_ hbel) (low_of_in HA.out.1) (low_of_inF HA.out.2) h4 HD.out OK.out (fun x hx => wrongL_all h0 _ (List.mem_map_of_mem hx)))
          have HK2 := Lib.hid (HK.out.trans (if_pos h0))
          clear heq hbel h0
          generalize keyR (l.map T.val) d = q at HR HK2
          by_cases hq : 1000 < q.length
          · go_wp2_with (first | (go_at_call 49; refine HR.out.mono ?_; rintro e w2 ⟨v2, rfl, hg2⟩; have G2 := Lib.hid hg2; obtain ⟨a, c, rfl, -, -, -, -⟩ := hg2.own.shape; clear hg2))
            go_ret2
            rw [HK2.out, if_pos hq]
            exact ⟨_, rfl, OwnB.nil _ _, G2.out.below (OwnB.nil _ _) HE.out.2 (Nat.le_refl _) HE.out.2.size⟩
          · go_wp2_with (first | (go_at_call 49; refine HR.out.mono ?_; rintro e w2 ⟨v2, rfl, hg2⟩; have G2 := Lib.hid hg2; obtain ⟨a, c, rfl, -, -, -, -⟩ := hg2.own.shape; clear hg2))
            go_ret2
            rw [HK2.out, if_neg hq]
            exact ⟨_, rfl, G2.out.own, G2.out.below (OwnB.nil _ _) HE.out.2 (Nat.le_refl _) HE.out.2.size⟩
    · have hne : ((d.length : Int) != (l.length : Int)) = true := by simp; omega
      go_enter Tryd.func30, Tryd.ntmps30
      go_wp2_with (first | (go_at_call 48; refine (mayBeRow_any l.length (by omega) _).mono ?_; rw [hm]; rintro e w1 ⟨rfl, rfl⟩))
      go_ret2
      rw [show keyOf (l.map T.val) d = (1, []) by unfold keyOf; rw [List.length_map, if_pos (Or.inr h2)]]
      exact ⟨_, rfl, OwnB.nil _ _, Below.refl _ _⟩
  · have hm := decide_eq_false h1
    go_enter Tryd.func30, Tryd.ntmps30
    go_wp2_with (first | (go_at_call 48; refine (mayBeRow_any l.length (by omega) _).mono ?_; rw [hm]; rintro e w1 ⟨rfl, rfl⟩))
    go_ret2
    rw [show keyOf (l.map T.val) d = (1, []) by unfold keyOf; rw [List.length_map, if_pos (Or.inl h1)]]
    exact ⟨_, rfl, OwnB.nil _ _, Below.refl _ _⟩
end Go.Proofs.YtdlgngnibbaamaaDoor
