/- The document's own Read: its contract. The document's own Read: its contract. The document's own Open of a page: its contract. No statement is proved here. -/
import Derived.Test.YtophhnolnlbecaaDoorQ1
import Derived.Test.YtophhnolnlbecaaDoorQ3
namespace Go.Proofs.YtophhnolnlbecaaDoor
open Go.RowKit
set_option maxRecDepth 100000

/-- Bytes from a place on, so many. -/
def cutB (l : List Int) (at_ size : Int) : List Int := (l.drop at_.toNat).take size.toNat
def argR (l : List Int) (at_ size : Int) : Bool := decide (1 ≤ size ∧ size ≤ 8 ∧ 0 ≤ at_ ∧ at_ ≤ l.length)
def lenR (l : List Int) (at_ size : Int) : Bool := decide (size ≤ l.length - at_)
def topR (l : List Int) (at_ size : Int) : Bool := decide (valB (cutB l at_ size) ≤ 9223372036854775807)
def readE (l : List Int) (at_ size : Int) : Int := if argR l at_ size then (if lenR l at_ size then (if topR l at_ size then 0 else 111) else 110) else 1
def readP (l : List Int) (at_ size : Int) : Int := if readE l at_ size = 0 then valB (cutB l at_ size) else 0
/-- The part from index i on. -/
theorem cut_next {l : List Int} {a i s : Nat} {x : Int} (hx : l[a + i]? = some x) (hi : i < s) : (l.drop (a + i)).take (s - i) = x :: (l.drop (a + (i + 1))).take (s - (i + 1)) := by
  have hl := lt_of_get hx
  have e : x = l[a + i] := by rw [List.getElem?_eq_getElem hl] at hx; injection hx with hx; exact hx.symm
  rw [List.drop_eq_getElem_cons hl, show s - i = (s - (i + 1)) + 1 by omega, List.take_succ_cons, e]
  rfl
theorem isB.drop {l : List Int} (h : isB l) (k : Nat) : isB (l.drop k) := fun b hb => h b (List.mem_of_mem_drop hb)
theorem isB.take' {l : List Int} (h : isB l) (k : Nat) : isB (l.take k) := fun b hb => h b (List.mem_of_mem_take hb)
theorem isB.at' {l : List Int} (h : isB l) {k : Nat} {x : Int} (hx : l[k]? = some x) : 0 ≤ x ∧ x ≤ 255 := h x (List.mem_of_getElem? hx)
theorem valB_small {l : List Int} (h : isB l) {m : Nat} (hl : l.length ≤ m) : valB l < 256 ^ m := by
  have := (valB_le h).2
  have h2 : (256 : Int) ^ l.length ≤ 256 ^ m := by
    have := Nat.pow_le_pow_right (n := 256) (by decide) hl
    have e1 : ((256 ^ l.length : Nat) : Int) = 256 ^ l.length := by rw [Int.natCast_pow]; rfl
    have e2 : ((256 ^ m : Nat) : Int) = 256 ^ m := by rw [Int.natCast_pow]; rfl
    rw [← e1, ← e2]
    omega
  omega
/-- Where the number fits, what stands above an index is small. -/
theorem read_small {l : List Int} (h : isB l) {a i s : Nat} (hs : s ≤ 8) (hi : 1 ≤ i) (his : i ≤ s) (hl : a + s ≤ l.length) (ht : valB ((l.drop a).take s) ≤ 9223372036854775807) : 0 ≤ valB ((l.drop (a + i)).take (s - i)) ∧ valB ((l.drop (a + i)).take (s - i)) ≤ 36028797018963967 := by
  have hb : isB ((l.drop (a + i)).take (s - i)) := (h.drop _).take' _
  refine ⟨(valB_le hb).1, ?_⟩
  have e : (l.drop a).take s = (l.drop a).take i ++ (l.drop (a + i)).take (s - i) := by
    have e1 : s = i + (s - i) := by omega
    conv => lhs; rw [e1]
    rw [List.take_add, List.drop_drop]
  rw [e, valB_append, List.length_take, List.length_drop, Nat.min_eq_left (by omega)] at ht
  have h0 := (valB_le ((h.drop a).take' i)).1
  have h1 := (valB_le hb).1
  have hp : (256 : Int) ≤ 256 ^ i := by
    have := Nat.pow_le_pow_right (n := 256) (by decide) hi
    have e1 : ((256 ^ i : Nat) : Int) = 256 ^ i := by rw [Int.natCast_pow]; rfl
    rw [← e1]; omega
  have h2 : 256 * valB ((l.drop (a + i)).take (s - i)) ≤ 256 ^ i * valB ((l.drop (a + i)).take (s - i)) := Int.mul_le_mul_of_nonneg_right hp h1
  omega
theorem top_read {l : List Int} (h : isB l) {a : Nat} {x : Int} (hx : l[a + 7]? = some x) : valB ((l.drop a).take 8) ≤ 9223372036854775807 ↔ x < 128 := by
  have hl := lt_of_get hx
  have hxb := h.at' hx
  have e : (l.drop a).take 8 = (l.drop a).take 7 ++ [x] := by
    rw [List.take_add_one, List.getElem?_drop, hx]; rfl
  have h1 := valB_le ((h.drop a).take' 7)
  rw [e, valB_append, List.length_take, List.length_drop, Nat.min_eq_left (by omega)]
  rw [List.length_take, List.length_drop, Nat.min_eq_left (by omega)] at h1
  simp only [valB]
  have e7 : (256 : Int) ^ 7 = 72057594037927936 := by decide
  rw [e7] at h1 ⊢
  omega
theorem top_free {l : List Int} (h : isB l) {a s : Nat} (hs : s ≤ 7) : valB ((l.drop a).take s) ≤ 9223372036854775807 := by
  have := valB_small ((h.drop a).take' s) (m := 7) (by rw [List.length_take]; omega)
  have e7 : (256 : Int) ^ 7 = 72057594037927936 := by decide
  rw [e7] at this
  omega
end Go.Proofs.YtophhnolnlbecaaDoor
namespace Go.Proofs.YtophhnolnlbecaaDoor
open Go.RowKit
set_option maxRecDepth 100000

def ReadTo (l : List Int) (at_ size : Int) (w : World) (e : Ending) (w' : World) : Prop := e = .returned (.tuple #[.int .i64 (readP l at_ size), .int .i64 (readE l at_ size)]) ∧ w = w'
theorem ReadTo.bad {l : List Int} {at_ size : Int} {w : World} (h : argR l at_ size = false) : ReadTo l at_ size w (.returned (.tuple #[.int .i64 0, .int .i64 1])) w := by
  refine ⟨?_, rfl⟩
  unfold readP readE
  rw [h]; rfl
theorem ReadTo.short {l : List Int} {at_ size : Int} {w : World} (h : argR l at_ size = true) (h2 : lenR l at_ size = false) : ReadTo l at_ size w (.returned (.tuple #[.int .i64 0, .int .i64 110])) w := by
  refine ⟨?_, rfl⟩
  unfold readP readE
  rw [h, h2]; rfl
theorem ReadTo.top {l : List Int} {at_ size : Int} {w : World} (h : argR l at_ size = true) (h2 : lenR l at_ size = true) (h3 : topR l at_ size = false) : ReadTo l at_ size w (.returned (.tuple #[.int .i64 0, .int .i64 111])) w := by
  refine ⟨?_, rfl⟩
  unfold readP readE
  rw [h, h2, h3]; rfl
theorem ReadTo.good {l : List Int} {at_ size : Int} {w : World} (h : argR l at_ size = true) (h2 : lenR l at_ size = true) (h3 : topR l at_ size = true) {x : Int} (hx : x = valB (cutB l at_ size)) : ReadTo l at_ size w (.returned (.tuple #[.int .i64 x, .int .i64 0])) w := by
  refine ⟨?_, rfl⟩
  unfold readP readE
  rw [h, h2, h3, hx]; rfl
set_option maxHeartbeats 4000000 in
theorem refRead_any (la : Option Addr) (c n : Nat) (l : List Int) (at_ size : Int) (w : World) (ha : InB w la l) (hB : isB l) (hn : l.length = n) (hl : n ≤ 140737488351232) (h1 : okInt at_) (h2 : okInt size) :
    Calls Tryd.prog 67 #[.slice la n c, .int .i64 at_, .int .i64 size] w (ReadTo l at_ size w) := by
  unfold okInt at h1 h2
  have HA := Lib.hid (And.intro ha (And.intro hB hn))
  clear ha hB
  by_cases a1 : size < 1
  · have HE := Lib.hid (ReadTo.bad (l := l) (w := w) (show argR l at_ size = false from decide_eq_false (by omega)))
    clear hn
    go_enter Tryd.func67, Tryd.ntmps67
    go_wp2
    go_ret2
    exact HE.out
  by_cases a2 : size > 8
  · have HE := Lib.hid (ReadTo.bad (l := l) (w := w) (show argR l at_ size = false from decide_eq_false (by omega)))
    clear hn
    go_enter Tryd.func67, Tryd.ntmps67
    go_wp2
    go_ret2
    exact HE.out
  by_cases a3 : at_ < 0
  · have HE := Lib.hid (ReadTo.bad (l := l) (w := w) (show argR l at_ size = false from decide_eq_false (by omega)))
    clear hn
    go_enter Tryd.func67, Tryd.ntmps67
    go_wp2
    go_ret2
    exact HE.out
  by_cases a4 : at_ > n
  · have HE := Lib.hid (ReadTo.bad (l := l) (w := w) (show argR l at_ size = false from decide_eq_false (by omega)))
    clear hn
    go_enter Tryd.func67, Tryd.ntmps67
    go_wp2
    go_ret2
    exact HE.out
  obtain ⟨a, rfl⟩ := Int.eq_ofNat_of_zero_le (show 0 ≤ at_ by omega)
  obtain ⟨s, rfl⟩ := Int.eq_ofNat_of_zero_le (show 0 ≤ size by omega)
  have HG : Hid (argR l a s = true) := Lib.hid (decide_eq_true (by omega))
  by_cases a5 : (n : Int) - a < s
  · have HE := Lib.hid (ReadTo.short (w := w) HG.out (show lenR l a s = false from decide_eq_false (by omega)))
    clear hn
    go_enter Tryd.func67, Tryd.ntmps67
    go_wp2
    go_ret2
    exact HE.out
  have HL : Hid (lenR l a s = true) := Lib.hid (decide_eq_true (by omega))
  have hs8 : s ≤ 8 := by omega
  have hs1 : 1 ≤ s := by omega
  have has : a + s ≤ n := by omega
  have hnl : n ≤ l.length := by omega
  by_cases s8 : s = 8
  · obtain ⟨b, o, y, e, hy, y0⟩ := HA.out.1.one (i := a + 7) (by omega)
    have hyb := HA.out.2.1.at' hy
    have hb8 : ((s : Int) == 8) = true := by simp; omega
    have HTT := Lib.hid (top_read HA.out.2.1 hy)
    have ha7 : a + 7 < n := by omega
    by_cases hx : y < 128
    · have HT : Hid (topR l a s = true) := Lib.hid (decide_eq_true (by unfold cutB; rw [Int.toNat_natCast, Int.toNat_natCast, s8]; exact HTT.out.2 hx))
      have HS := Lib.hid s8
      subst e
      clear hy s8 HTT hn
      go_enter Tryd.func67, Tryd.ntmps67
      go_wp2
      go_loop [8, 9] (fun u i => ∃ (j : Nat) (x : Int), j ≤ s ∧ i = .int .i64 ((j : Int) - 1) ∧ u = .int .i64 x ∧ Hid (x = valB ((l.drop (a + j)).take (s - j)))) (fun _ i => (intOf i + 1).toNat)
      case atStart => exact ⟨s, 0, Nat.le_refl _, rfl, rfl, by rw [Nat.sub_self, List.take_zero]; rfl⟩
      case round =>
        obtain ⟨j, x, hj, rfl, rfl, HX⟩ := hrel
        by_cases hlt : 1 ≤ j
        · obtain ⟨b', o', y, e', hy, y0⟩ := HA.out.1.one (i := a + (j - 1)) (by omega)
          obtain ⟨rfl, rfl⟩ : b = b' ∧ o = o' := by injection e' with e'; injection e' with e1 e2; exact ⟨e1, e2⟩
          clear e'
          have hyb := HA.out.2.1.at' hy
          have hsm := read_small HA.out.2.1 hs8 hlt hj (by omega) (show valB ((l.drop a).take s) ≤ 9223372036854775807 from of_decide_eq_true HT.out)
          rw [← HX] at hsm
          obtain ⟨x1, x2⟩ := hsm
          have HN := Lib.hid (cut_next (s := s) hy (by omega))
          rw [show j - 1 + 1 = j by omega] at HN
          obtain ⟨q, hq⟩ : ∃ q, q + 1 = j := ⟨j - 1, by omega⟩
          subst hq
          rw [show q + 1 - 1 = q by omega] at *
          have w1 : ((q + 1 : Nat) : Int) - 1 = q := by omega
          rw [w1]
          clear hy w1
          go_wp2
          go_round
          case rel => exact ⟨q, 256 * x + y, by omega, rfl, by go_num, by rw [HN.out, valB, ← HX]; exact Lib.hid (Int.add_comm _ _)⟩
          case measure => simp [intOf] <;> omega
        · have hj0 : j = 0 := by omega
          have HE := Lib.hid (ReadTo.good (w := w) HG.out HL.out HT.out (show x = valB (cutB l a s) by rw [HX, hj0]; rfl))
          have w1 : (j : Int) - 1 = -1 := by omega
          rw [w1]
          clear w1 hlt
          go_wp2
          go_ret2
          exact HE.out
    · have HT : Hid (topR l a s = false) := Lib.hid (decide_eq_false (by unfold cutB; rw [Int.toNat_natCast, Int.toNat_natCast, s8]; exact fun h => hx (HTT.out.1 h)))
      have HE := Lib.hid (ReadTo.top (w := w) HG.out HL.out HT.out)
      subst e
      clear hy s8 HTT hn
      go_enter Tryd.func67, Tryd.ntmps67
      go_wp2
      go_ret2
      exact HE.out
  · have HT : Hid (topR l a s = true) := Lib.hid (decide_eq_true (by unfold cutB; rw [Int.toNat_natCast, Int.toNat_natCast]; exact top_free HA.out.2.1 (by omega)))
    have hb8 : ((s : Int) == 8) = false := by simp; omega
    clear s8 hn
    go_enter Tryd.func67, Tryd.ntmps67
    go_wp2
    go_loop [8, 9] (fun u i => ∃ (j : Nat) (x : Int), j ≤ s ∧ i = .int .i64 ((j : Int) - 1) ∧ u = .int .i64 x ∧ Hid (x = valB ((l.drop (a + j)).take (s - j)))) (fun _ i => (intOf i + 1).toNat)
    case atStart => exact ⟨s, 0, Nat.le_refl _, rfl, rfl, by rw [Nat.sub_self, List.take_zero]; rfl⟩
    case round =>
      obtain ⟨j, x, hj, rfl, rfl, HX⟩ := hrel
      by_cases hlt : 1 ≤ j
      · obtain ⟨b, o, y, rfl, hy, y0⟩ := HA.out.1.one (i := a + (j - 1)) (by omega)
        have hyb := HA.out.2.1.at' hy
        have hsm := read_small HA.out.2.1 hs8 hlt hj (by omega) (show valB ((l.drop a).take s) ≤ 9223372036854775807 from of_decide_eq_true HT.out)
        rw [← HX] at hsm
        obtain ⟨x1, x2⟩ := hsm
        have HN := Lib.hid (cut_next (s := s) hy (by omega))
        rw [show j - 1 + 1 = j by omega] at HN
        obtain ⟨q, hq⟩ : ∃ q, q + 1 = j := ⟨j - 1, by omega⟩
        subst hq
        rw [show q + 1 - 1 = q by omega] at *
        have w1 : ((q + 1 : Nat) : Int) - 1 = q := by omega
        rw [w1]
        clear hy w1
        go_wp2
        go_round
        case rel => exact ⟨q, 256 * x + y, by omega, rfl, by go_num, by rw [HN.out, valB, ← HX]; exact Lib.hid (Int.add_comm _ _)⟩
        case measure => simp [intOf] <;> omega
      · have hj0 : j = 0 := by omega
        have HE := Lib.hid (ReadTo.good (w := w) HG.out HL.out HT.out (show x = valB (cutB l a s) by rw [HX, hj0]; rfl))
        have w1 : (j : Int) - 1 = -1 := by omega
        rw [w1]
        clear w1 hlt
        go_wp2
        go_ret2
        exact HE.out
end Go.Proofs.YtophhnolnlbecaaDoor
namespace Go.Proofs.YtophhnolnlbecaaDoor
open Go.RowKit
set_option maxRecDepth 100000

def lenG (l : List Int) : Int := valB (cutB l 9 2)
def kindG (l : List Int) : Int := l.getD 8 0
def clean (l : List Int) : Bool := (l.drop (11 + (lenG l).toNat)).all (· == 0)
/-- What is wrong with a page's bytes under a number. -/
def openE (l : List Int) (number : Int) : Int :=
  if l.length = 4096 then
    if moreP 0 (l.drop 4) = valB (cutB l 0 4) then
      if valB (cutB l 4 4) = number then
        if kindG l = 0 ∨ 4085 < lenG l then 122 else if clean l then 0 else 122
      else 121
    else 120
  else 122
def openK (l : List Int) (number : Int) : Int := if openE l number = 0 then kindG l else 0
def openL (l : List Int) (number : Int) : List Int := if openE l number = 0 then (l.drop 11).take (lenG l).toNat else []
/-- A number read where there are bytes enough. -/
theorem read_is {l : List Int} (h : isB l) {a s : Nat} (hs1 : 1 ≤ s) (hs : s ≤ 7) (ha : a + s ≤ l.length) : readP l a s = valB (cutB l a s) ∧ readE l a s = 0 := by
  have h1 : argR l a s = true := decide_eq_true (by omega)
  have h2 : lenR l a s = true := decide_eq_true (by omega)
  have h3 : topR l a s = true := decide_eq_true (by unfold cutB; rw [Int.toNat_natCast, Int.toNat_natCast]; exact top_free h hs)
  unfold readP readE
  rw [h1, h2, h3]
  exact ⟨rfl, rfl⟩
theorem cut_rng {l : List Int} (h : isB l) (a s : Int) : 0 ≤ valB (cutB l a s) := (valB_le ((h.drop a.toNat).take' s.toNat)).1
theorem lenG_rng {l : List Int} (h : isB l) : 0 ≤ lenG l ∧ lenG l ≤ 65535 := by
  refine ⟨cut_rng h _ _, ?_⟩
  have := valB_small ((h.drop 9).take' 2) (m := 2) (by rw [List.length_take]; omega)
  have e : (256 : Int) ^ 2 = 65536 := by decide
  show valB ((l.drop 9).take 2) ≤ 65535
  omega
theorem InB.take_ {w : World} {a : Option Addr} {l : List Int} (h : InB w a l) (k : Nat) : InB w a (l.take k) := fun i x hx => h i x (by
  rw [List.getElem?_take] at hx
  split at hx
  · exact hx
  · cases hx)
/-- What Open tells. -/
def OpenTo (l : List Int) (number : Int) (w : World) (e : Ending) (w' : World) : Prop := ∃ v, e = .returned (.tuple #[.int .i64 (openK l number), v, .int .i64 (openE l number)]) ∧ OwnB w' w.heap.size v (openL l number) ∧ Below w.heap.size w w'
theorem OpenTo.bad {l : List Int} {number : Int} {w : World} {n : Int} (h : openE l number = n) (hn : n ≠ 0) : OpenTo l number w (.returned (.tuple #[.int .i64 0, .slice none 0 0, .int .i64 n])) w := by
  have h0 : openE l number ≠ 0 := by rw [h]; exact hn
  exact ⟨_, by unfold openK; rw [if_neg h0, h], by unfold openL; rw [if_neg h0]; exact OwnB.nil _ _, Below.refl _ _⟩
theorem InB.from {w : World} {b o : Nat} {l : List Int} (h : InB w (some ⟨b, o, none⟩) l) (k : Nat) : InB w (some ⟨b, o + k, none⟩) (l.drop k) := fun i x hx => by
  rw [List.getElem?_drop] at hx
  obtain ⟨b', o', e, hc⟩ := h (k + i) x hx
  injection e with e
  injection e with e1 e2
  subst e1 e2
  exact ⟨b, o + k, rfl, by rw [Nat.add_assoc]; exact hc⟩
attribute [local go_sem ↓] app_sem
end Go.Proofs.YtophhnolnlbecaaDoor
