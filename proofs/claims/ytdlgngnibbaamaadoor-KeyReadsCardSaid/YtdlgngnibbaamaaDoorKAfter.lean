/- The contracts of keyenc's After, of the document's own, and of compare: no statement is proved here. -/
import Derived.Test.YtdlgngnibbaamaaDoorKRRow
import Derived.Test.YtdlgngnibbaamaaDoorKeyOrd
import Derived.Laws.Cover3
namespace Go.Proofs.YtdlgngnibbaamaaDoor
open Go.RowKit
set_option maxRecDepth 100000

/-- The least bytes behind all that begin with the first k. -/
def aftFrom (b : List Int) : Nat → List Int
  | 0 => []
  | k + 1 => match b[k]? with
    | some x => if x = 255 then aftFrom b k else b.take k ++ [x + 1]
    | none => []
def afterB (b : List Int) : List Int := aftFrom b b.length
theorem aft_step {b : List Int} {k : Nat} {x : Int} (hx : b[k]? = some x) : aftFrom b (k + 1) = if x = 255 then aftFrom b k else b.take k ++ [x + 1] := by rw [aftFrom, hx]
theorem InB.take {w : World} {a : Option Addr} {l : List Int} (h : InB w a l) (k : Nat) : InB w a (l.take k) := fun i x hx => by
  rw [List.getElem?_take] at hx
  split at hx
  · exact h i x hx
  · cases hx
theorem take_set {b : List Int} {k : Nat} {x : Int} (hx : b[k]? = some x) (y : Int) : (b.take (k + 1)).set k y = b.take k ++ [y] := by
  have := lt_of_get hx
  rw [List.take_add_one, hx, List.set_append_right _ _ (by rw [List.length_take]; omega), List.length_take, Nat.min_eq_left (by omega), Nat.sub_self]
  rfl

theorem run_eq_nil (w : World) (a : Option Addr) (n c : Nat) : (binOp BinOp.eql 28 (.slice a n c) (.slice none 0 0)).run Tryd.prog w = .ok (.bool a.isNone) w := by
  have h := run_equal_slice_nil (P := Tryd.prog) w 28 5 a n c Tryd.underlying28
  simp [binOp, go_sem, h]
set_option maxHeartbeats 2000000 in
theorem bclone_any (bb oo c : Nat) (q : List Int) (w : World) (ha : InB w (some ⟨bb, oo, none⟩) q) (hl : q.length ≤ 140737488355328) :
    Calls Tryd.prog 54 #[.slice (some ⟨bb, oo, none⟩) q.length c] w (Makes q w) := by
  have HA := Lib.hid ha
  have kc := fun w => run_eq_nil w (some ⟨bb, oo, none⟩) q.length c
  simp only [Option.isNone_some] at kc
  have HO := Lib.hid (show OwnB (w.alloc (.cells #[] 5)) w.heap.size (.slice (some ⟨w.heap.size, 0, none⟩) 0 0) [] by simpa [btV] using OwnB.lit w [] (by simp))
  clear ha
  go_enter Tryd.func54, Tryd.ntmps54
  go_wp2_with (first | (at_builtin; refine apR rfl (.tmp 5) (.tmp 6) rfl w.heap.size _ _ rfl HO.out (some ⟨bb, oo, none⟩) _ c q rfl rfl (HA.out.then_ (below1 _ _)) (fun h => by cases h) (by simp; omega) (below1 _ _).size ?_; intro v1 w1 hg1; have G1 := Lib.hid hg1; clear hg1))
  go_ret
  exact ⟨_, rfl, G1.out.own, G1.out.below HO.out (below1 _ _) (Nat.le_refl _) (below1 _ _).size⟩

set_option maxHeartbeats 4000000 in
theorem after_any (a : Option Addr) (c : Nat) (b : List Int) (w : World) (ha : InB w a b) (hb : isB b) (hl : b.length ≤ 140737488355328) (hc : b.length ≤ c) :
    Calls Tryd.prog 35 #[.slice a b.length c] w (Makes (afterB b) w) := by
  have HA := Lib.hid (And.intro ha hb)
  clear ha hb
  go_enter Tryd.func35, Tryd.ntmps35
  go_wp2_with fail
  go_loopw [3] (fun i wr => ∃ k : Nat, k ≤ b.length ∧ i = .int .i64 ((k : Int) - 1) ∧ afterB b = aftFrom b k ∧ Below w.heap.size w wr) (fun i _ => (intOf i + 1).toNat)
  case atStart => exact ⟨b.length, by omega, rfl, rfl, Below.refl _ _⟩
  case round =>
    obtain ⟨k, hk, rfl, he, hbel⟩ := hrel
    have HE := Lib.hid (And.intro he hbel)
    clear he
    cases k with
    | zero =>
      clear hbel
      go_wp2_with fail
      go_ret
      rw [HE.out.1, aftFrom]
      exact ⟨_, rfl, OwnB.nil _ _, HE.out.2⟩
    | succ j =>
      obtain ⟨bb, o, x, rfl, hx, x0⟩ := (HA.out.1.then_ hbel).one (i := j) (by omega)
      have hxr := HA.out.2 x (List.mem_of_getElem? hx)
      have HS := Lib.hid (aft_step hx)
      have HX := Lib.hid hx
      have hjj : ((j + 1 : Nat) : Int) - 1 = (j : Int) := by omega
      rw [hjj]
      clear hbel hx hjj
      by_cases h255 : x = 255
      · subst h255
        go_wp2_with fail
        go_roundw
        case rel => exact ⟨j, by omega, by go_num, by rw [HE.out.1, HS.out]; simp, HE.out.2⟩
        case measure => simp [intOf]
      · have hne : ((x : Int) != 255) = true := by simp [h255]
        have hw : (x + 1) % 256 = x + 1 := by omega
        have HN := Lib.hid h255
        clear h255
        have HC := Lib.hid (bclone_any bb o c (b.take (j + 1)) wr ((HA.out.1.then_ HE.out.2).take _) (by rw [List.length_take]; omega))
        have hlen : (b.take (j + 1)).length = j + 1 := by rw [List.length_take]; omega
        rw [hlen] at HC
        go_wp2_with (first | (go_at_call 54; refine HC.out.mono ?_; rintro e w2 ⟨v2, rfl, ho2, hb2⟩; obtain ⟨g, c2, rfl, hc2⟩ := ho2.form (by omega); rw [hlen] at ho2 hc2 ⊢; obtain ⟨y0, y1⟩ := ho2.at_ (show (b.take (j + 1))[j]? = some x by rw [List.getElem?_take, if_pos (by omega)]; exact HX.out); have S2 := Lib.hid (And.intro ho2 hb2); clear ho2 hb2))
        go_ret
        obtain ⟨s1, s2⟩ := S2.out.1.set j (x + 1)
        rw [take_set HX.out] at s1
        rw [HE.out.1, HS.out, if_neg HN.out]
        exact ⟨_, rfl, s1.base HE.out.2.size, below_then HE.out.2 ((S2.out.2).setCell (p := ⟨g, j, none⟩) (S2.out.1.block g rfl).1 _)⟩

set_option maxHeartbeats 4000000 in
theorem refAfter_any (a : Option Addr) (c : Nat) (b : List Int) (w : World) (ha : InB w a b) (hb : isB b) (hl : b.length ≤ 140737488355328) (hc : b.length ≤ c) :
    Calls Tryd.prog 36 #[.slice a b.length c] w (Makes (afterB b) w) := by
  have HA := Lib.hid (And.intro ha hb)
  clear ha hb
  go_enter Tryd.func36, Tryd.ntmps36
  go_wp2_with fail
  go_loopw [3] (fun i wr => ∃ k : Nat, k ≤ b.length ∧ i = .int .i64 ((k : Int) - 1) ∧ afterB b = aftFrom b k ∧ Below w.heap.size w wr) (fun i _ => (intOf i + 1).toNat)
  case atStart => exact ⟨b.length, by omega, rfl, rfl, Below.refl _ _⟩
  case round =>
    obtain ⟨k, hk, rfl, he, hbel⟩ := hrel
    have HE := Lib.hid (And.intro he hbel)
    clear he
    cases k with
    | zero =>
      clear hbel
      go_wp2_with fail
      go_ret
      rw [HE.out.1, aftFrom]
      exact ⟨_, rfl, OwnB.nil _ _, HE.out.2⟩
    | succ j =>
      obtain ⟨bb, o, x, rfl, hx, x0⟩ := (HA.out.1.then_ hbel).one (i := j) (by omega)
      have hxr := HA.out.2 x (List.mem_of_getElem? hx)
      have HS := Lib.hid (aft_step hx)
      have HX := Lib.hid hx
      have hjj : ((j + 1 : Nat) : Int) - 1 = (j : Int) := by omega
      rw [hjj]
      clear hbel hx hjj
      by_cases h255 : x = 255
      · subst h255
        go_wp2_with fail
        go_roundw
        case rel => exact ⟨j, by omega, by go_num, by rw [HE.out.1, HS.out]; simp, HE.out.2⟩
        case measure => simp [intOf]
      · have hne : ((x : Int) == 255) = false := by simp [h255]
        have hw : (x + 1) % 256 = x + 1 := by omega
        have HN := Lib.hid h255
        clear h255
        have hlen : (b.take (j + 1)).length = j + 1 := by rw [List.length_take]; omega
        go_wp2_with (first | (at_builtin; refine apR rfl (.tmp 21) (.tmp 25) rfl w.heap.size _ _ rfl (OwnB.nil _ _) (some ⟨bb, o, none⟩) (j + 1) c (b.take (j + 1)) rfl hlen ((HA.out.1.then_ HE.out.2).take _) (fun h => by cases h) (by simp; omega) HE.out.2.size ?_; intro v2 w2 hg2; have ho2 := hg2.own; rw [List.nil_append] at ho2; have hb2 := hg2.below (OwnB.nil _ _) HE.out.2 (Nat.le_refl _) HE.out.2.size; obtain ⟨g, c2, rfl, hc2⟩ := ho2.form (by omega); rw [hlen] at ho2 hc2 ⊢; obtain ⟨y0, y1⟩ := ho2.at_ (show (b.take (j + 1))[j]? = some x by rw [List.getElem?_take, if_pos (by omega)]; exact HX.out); have S2 := Lib.hid (And.intro ho2 hb2); clear ho2 hb2 hg2))
        go_ret
        obtain ⟨s1, s2⟩ := S2.out.1.set j (x + 1)
        rw [take_set HX.out] at s1
        rw [HE.out.1, HS.out, if_neg HN.out]
        exact ⟨_, rfl, s1, (S2.out.2).setCell (p := ⟨g, j, none⟩) (S2.out.1.block g rfl).1 _⟩

theorem cmpB_step {a b : List Int} {k : Nat} {x y : Int} (hx : a[k]? = some x) (hy : b[k]? = some y) : cmpB (a.drop k) (b.drop k) = if cmpI x y = 0 then cmpB (a.drop (k + 1)) (b.drop (k + 1)) else cmpI x y := by
  obtain ⟨h1, rfl⟩ := List.getElem?_eq_some_iff.1 hx
  obtain ⟨h2, rfl⟩ := List.getElem?_eq_some_iff.1 hy
  rw [List.drop_eq_getElem_cons h1, List.drop_eq_getElem_cons h2, cmpB, lex]
  rfl
set_option maxHeartbeats 4000000 in
theorem bcompare_any (la lb : Option Addr) (ca cb : Nat) (a b : List Int) (w : World) (ha : InB w la a) (hb : InB w lb b) (hla : a.length ≤ 9223372036854775807) (hlb : b.length ≤ 9223372036854775807) :
    Calls Tryd.prog 37 #[.slice la a.length ca, .slice lb b.length cb] w fun e w' => e = .returned (.int .i64 (cmpB a b)) ∧ Below w.heap.size w w' := by
  have HA := Lib.hid (And.intro ha hb)
  clear ha hb
  go_enter Tryd.func37, Tryd.ntmps37
  go_wp2_with fail
  go_loopw [5] (fun i wr => ∃ k : Nat, k ≤ a.length ∧ k ≤ b.length ∧ i = .int .i64 k ∧ cmpB a b = cmpB (a.drop k) (b.drop k) ∧ Below w.heap.size w wr) (fun i _ => a.length - (intOf i).toNat)
  case atStart => exact ⟨0, by omega, by omega, rfl, rfl, Below.refl _ _⟩
  case round =>
    obtain ⟨k, hk1, hk2, rfl, he, hbel⟩ := hrel
    have HE := Lib.hid (And.intro he hbel)
    clear he
    by_cases h1 : k < a.length
    · by_cases h2 : k < b.length
      · obtain ⟨bx, ox, x, rfl, hx, x0⟩ := (HA.out.1.then_ hbel).one h1
        obtain ⟨b2, o2, y, rfl, hy, y0⟩ := (HA.out.2.then_ hbel).one h2
        have HS := Lib.hid (cmpB_step hx hy)
        clear hx hy hbel
        by_cases hlt : x < y
        · have HC := Lib.hid (show cmpI x y = -1 by simp [cmpI, hlt])
          go_wp2_with fail
          go_quiet (fail)
          go_wp2_with fail
          go_ret
          exact ⟨ret_int (by rw [HE.out.1, HS.out, HC.out]; rfl), by first | exact below_drewN HE.out.2 _ | exact below_drewN (below_drewN HE.out.2 _) _⟩
        · by_cases hgt : y < x
          · have HC := Lib.hid (show cmpI x y = 1 by simp [cmpI, hlt, hgt])
            go_wp2_with fail
            go_quiet (fail)
            go_wp2_with fail
            go_quiet (fail)
            go_wp2_with fail
            go_ret
            exact ⟨ret_int (by rw [HE.out.1, HS.out, HC.out]; rfl), by first | exact below_drewN HE.out.2 _ | exact below_drewN (below_drewN HE.out.2 _) _⟩
          · have HC := Lib.hid (show cmpI x y = 0 by simp [cmpI, hlt, hgt])
            go_wp2_with fail
            go_quiet (fail)
            go_wp2_with fail
            go_quiet (fail)
            go_wp2_with fail
            go_roundw
            case rel => exact ⟨k + 1, by omega, by omega, by go_num, by rw [HE.out.1, HS.out, HC.out]; rfl, by first | exact below_drewN HE.out.2 _ | exact below_drewN (below_drewN HE.out.2 _) _⟩
            case measure => simp [intOf]; omega
      · clear hbel
        go_wp2_with fail
        go_ret
        refine ⟨ret_int ?_, HE.out.2⟩
        rw [HE.out.1, List.drop_eq_nil_of_le (show b.length ≤ k by omega), List.drop_eq_getElem_cons h1]
        simp [cmpB, lex]
    · by_cases h2 : a.length < b.length
      · clear hbel
        go_wp2_with fail
        go_ret
        refine ⟨ret_int ?_, HE.out.2⟩
        rw [HE.out.1, List.drop_eq_nil_of_le (show a.length ≤ k by omega), List.drop_eq_getElem_cons (show k < b.length by omega)]
        simp [cmpB, lex]
      · clear hbel
        go_wp2_with fail
        go_ret
        refine ⟨ret_int ?_, HE.out.2⟩
        rw [HE.out.1, List.drop_eq_nil_of_le (show a.length ≤ k by omega), List.drop_eq_nil_of_le (show b.length ≤ k by omega)]
        simp [cmpB, lex]
end Go.Proofs.YtdlgngnibbaamaaDoor
