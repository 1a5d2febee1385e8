/- Rows of bytes in memory, and what layer 2's statements call over them: no statement is proved here. -/
import Derived.Test.YtjfgmcmnpekahaaDoorSameList
namespace Go.Proofs.YtjfgmcmnpekahaaDoor
open Go.RowKit
set_option maxRecDepth 100000

/-- A row of bytes stands at that place: its elements, as numbers. -/
def InB (w : World) (a : Option Addr) (l : List Int) : Prop := ∀ i x, l[i]? = some x → ∃ b o, a = some ⟨b, o, none⟩ ∧ w.cell? ⟨b, o + i, none⟩ = some (.int .u8 x)
theorem InB.then_ {w w' : World} {a : Option Addr} {l : List Int} (h : InB w a l) (hb : Below w.heap.size w w') : InB w' a l := fun i x hx => by
  obtain ⟨b, o, ha, hc⟩ := h i x hx
  exact ⟨b, o, ha, (hb.cell (cell_lt hc)).trans hc⟩
theorem InB.one {w : World} {a : Option Addr} {l : List Int} (h : InB w a l) {i : Nat} (hi : i < l.length) : ∃ b o x, a = some ⟨b, o, none⟩ ∧ l[i]? = some x ∧ w.cell? ⟨b, o + i, none⟩ = some (.int .u8 x) := by
  obtain ⟨b, o, ha, hc⟩ := h i _ (List.getElem?_eq_getElem hi)
  exact ⟨b, o, _, ha, List.getElem?_eq_getElem hi, hc⟩
theorem InB.nil (w : World) (a : Option Addr) : InB w a [] := fun i x h => by simp at h

theorem take_eq_snoc {α : Type} {a b : List α} {k : Nat} {x : α} (h : a.take k = b.take k) (hx : a[k]? = some x) (hy : b[k]? = some x) : a.take (k + 1) = b.take (k + 1) := by
  rw [List.take_add_one, List.take_add_one, h, hx, hy]

set_option maxHeartbeats 2000000 in
/-- Are two rows of bytes the same? -/
theorem bsame_any (la lb : Option Addr) (ca cb n m : Nat) (a b : List Int) (w : World) (hn : a.length = n) (hm : b.length = m) (ha : InB w la a) (hb : InB w lb b) (hl : n ≤ 9223372036854775807) :
    Calls Tryd.prog 13 #[.slice la n ca, .slice lb m cb] w fun e w' => e = .returned (.bool (decide (a = b))) ∧ Below w.heap.size w w' := by
  by_cases hnm : n = m
  · subst hnm
    have HN := Lib.hid hn
    have HM := Lib.hid hm
    have HA := Lib.hid ha
    have HB := Lib.hid hb
    clear hn hm ha hb
    have hne : ((n : Int) != (n : Int)) = false := by simp
    go_enter Tryd.func13, Tryd.ntmps13
    go_wp2_with fail
    go_loopw [5] (fun i wr => ∃ k : Nat, k ≤ n ∧ i = .int .i64 k ∧ a.take k = b.take k ∧ Below w.heap.size w wr) (fun i _ => n - (intOf i).toNat)
    case atStart => exact ⟨0, by omega, rfl, rfl, Below.refl _ _⟩
    case round =>
      obtain ⟨k, hk, rfl, heq, hbel⟩ := hrel
      have HE := Lib.hid heq
      clear heq
      by_cases h1 : k < n
      · obtain ⟨bx, ox, x, rfl, hx, x0⟩ := (HA.out.then_ hbel).one (i := k) (by have := HN.out; omega)
        obtain ⟨b2, o2, y, rfl, hy, y0⟩ := (HB.out.then_ hbel).one (i := k) (by have := HM.out; omega)
        have HX := Lib.hid hx
        have HY := Lib.hid hy
        clear hx hy
        by_cases hxy : x = y
        · subst hxy
          go_wp2_with fail
          go_quiet (fail)

          go_wp2_with fail
          go_roundw
          case rel => exact ⟨k + 1, by omega, by go_num, take_eq_snoc HE.out HX.out HY.out, below_drewN hbel _⟩
          case measure => simp [intOf]; omega
        · go_wp2_with fail
          go_quiet (fail)
          go_wp2_with fail
          go_ret
          refine ⟨ret_bool ?_, below_drewN hbel _⟩
          have : a ≠ b := fun h => hxy (by have h1 := HX.out; have h2 := HY.out; rw [h] at h1; rw [h1] at h2; exact Option.some.inj h2)
          simp [this]
      · go_wp2_with fail
        go_ret
        refine ⟨ret_bool ?_, hbel⟩
        have h2 := HE.out
        rw [List.take_of_length_le (by have := HN.out; omega), List.take_of_length_le (by have := HM.out; omega)] at h2
        simp [h2]
  · have hab : a ≠ b := fun h => hnm (by rw [← hn, ← hm, h])
    have hne : ((n : Int) != (m : Int)) = true := by simp; omega
    have HD := Lib.hid hab
    clear hab ha hb hn hm
    go_enter Tryd.func13, Tryd.ntmps13
    go_wp2_with fail
    all_goals (go_ret; exact ⟨ret_bool (by simp [HD.out]), by exact Below.refl _ _⟩)
end Go.Proofs.YtjfgmcmnpekahaaDoor
