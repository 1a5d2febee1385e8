/- The contracts of meetEach and meet, the iterator of Reach: no statement is proved here. -/
import Derived.Test.YtkklnfihjikilaaDoorPathPick
import Derived.RangeFuncNested
import Derived.RangeFuncBound
import Derived.RangeFuncCalls
import Derived.RangeFuncLeaves
import Derived.Shelf.Abstract
import Derived.OwnWalkIn
import Derived.TacticsInMore
import Derived.LoopNIn
import Derived.LoopIn
namespace Go.Proofs.YtkklnfihjikilaaDoor
open Go.RowKit Go.Shelf
set_option maxRecDepth 100000
attribute [local go_sem] Oper.semAt_some

/-- What a round is handed: a value that lay there when the loop began. -/
abbrev Lain (w0 : World) := { t : T // t.ok ∧ t.In w0 }
def valsOf {w0 : World} (q : List (Lain w0)) : List V := q.map (·.1.val)
theorem valsOf_append {w0 : World} (a b : List (Lain w0)) : valsOf (a ++ b) = valsOf a ++ valsOf b := List.map_append
/-- The block of the row that the loop's own variable, in box B, points to. -/
def lblk (B : Nat) (W : World) : Option Nat := match W.cell? ⟨B, 0, none⟩ with
  | some (.slice (some a) _ _) => some a.block
  | _ => none
/-- What a round keeps: whatever is cells, but the loop's own box and the row that it points to; that row is as it was, or new. -/
structure Keep (n B : Nat) (W W' : World) : Prop where
  below : Below n W W'
  lb : lblk B W' = lblk B W ∨ ∃ g, lblk B W' = some g ∧ W.heap.size ≤ g ∧ g < W'.heap.size
  same : ∀ (k : Nat) (o : Obj), W.heap[k]? = some o → o.isCells = true → k ≠ B → lblk B W ≠ some k → W'.heap[k]? = some o
structure LOk (B : Nat) (W : World) : Prop where
  lt : B < W.heap.size
  fits : ∀ g, lblk B W = some g → g < W.heap.size
theorem Keep.trans {n B : Nat} {X Y Z : World} (h : Keep n B X Y) (k : Keep n B Y Z) : Keep n B X Z := by
  refine ⟨h.below.trans k.below, ?_, fun i o hi ho hB hl => ?_⟩
  · have h1 := h.below.size
    have h2 := k.below.size
    rcases k.lb with e | ⟨g, e, h3, h4⟩
    · rcases h.lb with e' | ⟨g, e', h3, h4⟩
      · exact .inl (e.trans e')
      · exact .inr ⟨g, e.trans e', h3, by omega⟩
    · exact .inr ⟨g, e, by omega, h4⟩
  · refine k.same i o (h.same i o hi ho hB hl) ho hB fun e => ?_
    rcases h.lb with e' | ⟨g, e', h3, h4⟩
    · exact hl (e'.symm.trans e)
    · rw [e'] at e
      injection e with e
      have := (Array.getElem?_eq_some_iff.1 hi).1
      omega
theorem lblk_below {B : Nat} {W W' : World} (hB : B < W.heap.size) (h : Below W.heap.size W W') : lblk B W' = lblk B W := by
  unfold lblk
  rw [h.cell (p := ⟨B, 0, none⟩) hB]
theorem Keep.of_below {n B : Nat} {W W' : World} (hB : B < W.heap.size) (hn : n ≤ W.heap.size) (h : Below W.heap.size W W') : Keep n B W W' :=
  ⟨h.mono hn, .inl (lblk_below hB h), fun k _ hk _ _ _ => (h.block k (Array.getElem?_eq_some_iff.1 hk).1).trans hk⟩
theorem LOk.below {B : Nat} {W W' : World} (h : LOk B W) (k : Below W.heap.size W W') : LOk B W' := by
  have hs := k.size
  refine ⟨by have := h.lt; omega, fun g e => ?_⟩
  rw [lblk_below h.lt k] at e
  have := h.fits g e
  omega
theorem LOk.keep {n B : Nat} {W W' : World} (h : LOk B W) (k : Keep n B W W') : LOk B W' := by
  have hs := k.below.size
  refine ⟨by have := h.lt; omega, fun g e => ?_⟩
  rcases k.lb with e' | ⟨g', e', h3, h4⟩
  · rw [e'] at e
    have := h.fits g e
    omega
  · rw [e'] at e
    injection e with e
    omega
/-- What the iterator is told of the rounds. -/
structure Rounds (w0 : World) (B l N : Nat) (J Jx : List (Lain w0) → World → Prop) : Prop where
  yields : ∀ m pre (x : Lain w0) W, J pre W → pre.length < N → YieldAt Fence.wide m Tryd.prog l #[x.1.arg] W fun e W' =>
    (e = .returned (.bool true) ∧ J (pre ++ [x]) W' ∧ Keep w0.heap.size B W W') ∨ (e = .returned (.bool false) ∧ Jx (pre ++ [x]) W')
  keeps : ∀ pre W W', J pre W → Below W.heap.size W W' → J pre W'
  keepsx : ∀ pre W W', Jx pre W → Below W.heap.size W W' → Jx pre W'
/-- What the values to which parts lead have done to the rounds. -/
def MeetTo (w0 : World) (B : Nat) (J Jx : List (Lain w0) → World → Prop) (vs : List V) (pre : List (Lain w0)) (W : World) (e : Ending) (W' : World) : Prop :=
  (e = .returned (.bool true) ∧ Keep w0.heap.size B W W' ∧ ∃ q, valsOf q = vs ∧ J (pre ++ q) W') ∨ (e = .returned (.bool false) ∧ ∃ q, valsOf q <+: vs ∧ Jx (pre ++ q) W')
def MeetAt (w0 : World) (B l N : Nat) (J Jx : List (Lain w0) → World → Prop) (t : T) : Prop :=
  ∀ (ps : List ByteArray) (pa : Option Addr) (pc : Nat) (pre : List (Lain w0)) (W : World), Parts w0 pa pc ps → Below w0.heap.size w0 W → LOk B W → J pre W → pre.length + (metV t.val ps).length ≤ N →
    Calls Tryd.prog 64 #[t.arg, .slice pa ps.length pc, .func (.yield l) #[] #[]] W (MeetTo w0 B J Jx (metV t.val ps) pre W)
theorem metEach_next (ps : List ByteArray) : ∀ (l : List V) (k : Nat) (x : V), l[k]? = some x → metEach (l.drop k) ps = (if kindV x = 5 then metV x ps else []) ++ metEach (l.drop (k + 1)) ps := by
  intro l k x hx
  obtain ⟨h1, rfl⟩ := List.getElem?_eq_some_iff.1 hx
  rw [List.drop_eq_getElem_cons h1, metEach]

set_option maxHeartbeats 4000000 in
theorem meetEach_any (w0 : World) (B l N : Nat) (J Jx : List (Lain w0) → World → Prop) (hR : Rounds w0 B l N J Jx) (la : Option Addr) (ca : Nat) (ts : List T) (hin : InL w0 la ts) (hl : ts.length * 80 ≤ 140737488351232) (okl : ∀ x ∈ ts, x.ok) (ih : ∀ x ∈ ts, MeetAt w0 B l N J Jx x)
    (ps : List ByteArray) (pa : Option Addr) (pc : Nat) (pre : List (Lain w0)) (W : World) (hps : Parts w0 pa pc ps) (hW : Below w0.heap.size w0 W) (hL : LOk B W) (hJ : J pre W) (hN : pre.length + (metEach (ts.map T.val) ps).length ≤ N) :
    Calls Tryd.prog 81 #[.slice la ts.length ca, .slice pa ps.length pc, .func (.yield l) #[] #[]] W (MeetTo w0 B J Jx (metEach (ts.map T.val) ps) pre W) := by
  have HR := Lib.hid hR
  have HI := Lib.hid hin
  have HO := Lib.hid (And.intro okl ih)
  have HP := Lib.hid hps
  have HW := Lib.hid hW
  have HJ := Lib.hid hJ
  have HN := Lib.hid hN
  have HLO := Lib.hid hL
  clear hR hin okl ih hps hW hJ hN hL
  go_enter Tryd.func81, Tryd.ntmps81
  go_wp2_with fail
  go_loopw [8, 11] (fun _ i wr => ∃ (k : Nat) (q : List (Lain w0)), k ≤ ts.length ∧ i = .int .i64 k ∧ valsOf q ++ metEach ((ts.map T.val).drop k) ps = metEach (ts.map T.val) ps ∧ J (pre ++ q) wr ∧ Keep w0.heap.size B W wr) (fun _ i _ => ts.length - (intOf i).toNat)
  case atStart => exact ⟨0, [], by omega, rfl, rfl, by rw [List.append_nil]; exact HJ.out, Keep.of_below HLO.out.lt HW.out.size (Below.refl _ _)⟩
  case round =>
    obtain ⟨k, q, hk, rfl, hq, hj, hb⟩ := hrel
    have HQ := Lib.hid (And.intro hq hj)
    have HB := Lib.hid hb
    clear hq hj
    by_cases h1 : k < ts.length
    · obtain ⟨b, o, k1, n1, s1, la1, lc1, l1, da1, dc1, d1, rfl, hx, hix, x0, x1, x2, x3, x4⟩ := (HI.out.below (Nat.le_refl _) (HW.out.trans hb.below)).five h1
      have HX := Lib.hid hx
      have HS := Lib.hid (metEach_next ps (ts.map T.val) k _ (by rw [List.getElem?_map, hx]; rfl))
      have HM := Lib.hid (HO.out.2 _ (List.mem_of_getElem? hx))
      clear hx hix hb
      by_cases hk5 : k1 = 5
      · subst hk5
        have HK := Lib.hid (show metEach ((ts.map T.val).drop k) ps = metV (T.mk 5 n1 s1 la1 lc1 l1 da1 dc1 d1).val ps ++ metEach ((ts.map T.val).drop (k + 1)) ps by rw [HS.out, if_pos (by rw [T.val_mk]; rfl)])
        have HL : (pre ++ q).length + (metV (T.mk 5 n1 s1 la1 lc1 l1 da1 dc1 d1).val ps).length ≤ N := by
          have h1 := congrArg List.length HQ.out.1
          rw [HK.out] at h1
          have h2 := HN.out
          simp only [List.length_append, valsOf, List.length_map] at h1 ⊢
          omega
        have HLL := Lib.hid HL
        clear HL
        have hsz : w0.heap.size ≤ wr.heap.size := Nat.le_trans HW.out.size HB.out.below.size
        have hlo := HLO.out.keep HB.out
        go_wp2_with (go_at_call 64; refine (HM.out ps pa pc (pre ++ q) _ HP.out ((HW.out.trans HB.out.below).alloc hsz _) (hlo.below (below1 _ _)) (HR.out.keeps _ _ _ HQ.out.2 (below1 wr _)) HLL.out).mono ?_; rintro e w1 (⟨rfl, b1, q1, hq1, hj1⟩ | ⟨rfl, q1, hq1, hj1⟩))
        · have HF := Lib.hid (And.intro hq1 (And.intro hj1 ((HB.out.trans (Keep.of_below hlo.lt hsz (below1 _ _))).trans b1)))
          clear hq1 hj1 b1
          go_roundw
          case rel => exact ⟨k + 1, q ++ q1, by omega, by go_num, by rw [valsOf_append, List.append_assoc, HF.out.1, ← HK.out]; exact HQ.out.1, by rw [← List.append_assoc]; exact HF.out.2.1, HF.out.2.2⟩
          case measure => simp [intOf]; omega
        · go_ret
          refine .inr ⟨rfl, q ++ q1, ?_, by rw [← List.append_assoc]; exact hj1⟩
          obtain ⟨r, hr⟩ := hq1
          rw [valsOf_append, ← HQ.out.1, HK.out, ← hr]
          exact ⟨r ++ metEach ((ts.map T.val).drop (k + 1)) ps, by simp⟩
      · have h5 : ((k1 : Int) == 5) = false := by simp [hk5]
        have HK := Lib.hid (show metEach ((ts.map T.val).drop k) ps = metEach ((ts.map T.val).drop (k + 1)) ps by rw [HS.out, if_neg (by rw [T.val_mk]; exact hk5), List.nil_append])
        have hsz : w0.heap.size ≤ wr.heap.size := Nat.le_trans HW.out.size HB.out.below.size
        have hlo := HLO.out.keep HB.out
        have HF := Lib.hid (fun X => And.intro (HR.out.keeps _ _ _ HQ.out.2 (below1 wr X)) (HB.out.trans (Keep.of_below hlo.lt hsz (below1 _ X))))
        go_wp2_with fail
        go_roundw
        case rel => exact ⟨k + 1, q, by omega, by go_num, by rw [← HK.out]; exact HQ.out.1, (HF.out _).1, (HF.out _).2⟩
        case measure => simp [intOf]; omega
    · go_wp2_with fail
      go_ret
      refine .inl ⟨rfl, hb, q, ?_, HQ.out.2⟩
      have := HQ.out.1
      rw [List.drop_eq_nil_of_le (by simp; omega), metEach, List.append_nil] at this
      exact this
end Go.Proofs.YtkklnfihjikilaaDoor
