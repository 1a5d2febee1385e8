/- The law PathSplits over its contracts: no statement is proved here. -/
import Derived.Test.YtkklnfihjikilaaDoorPathAwake
import Derived.Test.YtkklnfihjikilaaDoorPathRSpl
namespace Go.Proofs.YtkklnfihjikilaaDoor
open Go.RowKit
set_option maxRecDepth 100000

def spoilt : ByteArray := ⟨#[115, 112, 111, 105, 108, 116]⟩
/-- A row whose first texts are being written over: from k on it stands as it stood. -/
structure SpRel (W wr : World) (g : Nat) (P : List ByteArray) (k : Nat) : Prop where
  only : Only [g] W wr
  row : ∃ cur : Array Value, wr.heap[g]? = some (.cells cur 9 (0, 0)) ∧ ∀ j x, k ≤ j → P[j]? = some x → cur[j]? = some (.string x)
theorem SpRel.drew {W wr : World} {g : Nat} {P : List ByteArray} {k : Nat} (h : SpRel W wr g P k) : SpRel W wr.drew g P k := ⟨⟨h.only.os, h.only.tape, h.only.output, h.only.size, h.only.block⟩, h.row⟩
theorem SpRel.at_ {W wr : World} {g : Nat} {P : List ByteArray} {k : Nat} (h : SpRel W wr g P k) {x : ByteArray} (hx : P[k]? = some x) : wr.cell? ⟨g, k, none⟩ = some (.string x) ∧ wr.frozen? ⟨g, k, none⟩ = false := by
  obtain ⟨cur, h1, h2⟩ := h.row
  exact ⟨(row_cells h1 k).trans (h2 k x (Nat.le_refl _) hx), row_free h1 k⟩
theorem SpRel.next {W wr : World} {g : Nat} {P : List ByteArray} {k : Nat} (h : SpRel W wr g P k) (v : Value) : SpRel W (wr.setCell ⟨g, k, none⟩ v) g P (k + 1) := by
  obtain ⟨cur, h1, h2⟩ := h.row
  refine ⟨h.only.setCell (p := ⟨g, k, none⟩) (.inl (by simp)) v, cur.setIfInBounds k v, heap_setCell_same _ g k _ _ v h1, fun j x hj hx => ?_⟩
  rw [Array.getElem?_setIfInBounds_ne (by omega)]
  exact h2 j x (by omega) hx
theorem strV_at {l : List ByteArray} {k : Nat} {x : ByteArray} (h : l[k]? = some x) : (strV l)[k]? = some (.string x) := by rw [strV, List.getElem?_map, h]; rfl
/-- A row of texts that a call owns. -/
theorem str_cell {w : World} {B n : Nat} {a : Option Addr} {c : Nat} {l : List ByteArray} (h : w.ownsRow B 9 1 (.slice a n c) n (strV l)) {k : Nat} {x : ByteArray} (hx : l[k]? = some x) : ∃ g, a = some ⟨g, 0, none⟩ ∧ B ≤ g ∧ g < w.heap.size ∧ w.cell? ⟨g, k, none⟩ = some (.string x) := by
  have hk := strV_at hx
  have hlt : k < (strV l).length := (List.getElem?_eq_some_iff.1 hk).1
  rcases h.2 with ⟨hv, hn⟩ | ⟨g, cap, cur, hv, hB, hg, _⟩
  · have := h.1; omega
  · injection hv with e1 e2 e3
    subst e1
    have hc := h.cells (g := g) rfl k _ hk
    refine ⟨g, rfl, hB, lt_of_block hg, ?_⟩
    have e : (⟨g, 0, none⟩ : Addr).add k = ⟨g, k, none⟩ := by
      unfold Addr.add
      by_cases h0 : k = 0
      · subst h0; rfl
      · simp [h0]
    rw [e] at hc
    exact hc
set_option maxHeartbeats 4000000 in
theorem splits_law (p : ByteArray) (hs : p.size < 4294967281) (w : World) (hT : Tabs4 w) :
    Calls Tryd.prog 3 #[.string p] w fun e w' => e = .returned (.bool true) ∧ Below w.heap.size w w' := by
  have HT := Lib.hid hT
  have hok : okLen p.size := by unfold okLen; omega
  have HSP := Lib.hid (fun w (h : Tabs4 w) => split_any p hs w h.1 h.2.choose h.2.choose_spec)
  have HRS := Lib.hid (fun w (h : Tabs4 w) => refSplit_any p hok w h.1)
  clear hT hok
  go_enter Tryd.func3, Tryd.ntmps3
  go_wp2_with fail
  refine (awake04_any _ HT.out).mono ?_
  rintro e w1 ⟨rfl, b1⟩
  have B1 := Lib.hid b1
  clear b1
  go_wp2_with fail
  refine (HSP.out _ (HT.out.then_ B1.out)).mono ?_
  rintro e w2 ⟨b2, ⟨hno, rfl⟩ | ⟨hyes, g, c, hg, rfl, hlc, hc11, hrow⟩⟩
  · have B2 := Lib.hid (below_then B1.out b2)
    have HNO := Lib.hid hno
    clear b2 hno
    go_wp2_with fail
    refine (HRS.out _ (HT.out.then_ B2.out)).mono ?_
    rintro e w3 ⟨b3, ⟨-, rfl⟩ | ⟨hy, -⟩⟩
    · have B3 := Lib.hid (below_then B2.out b3)
      clear b3
      go_wp2_with fail
      go_loopw [8] (fun s8 wr => s8 = .int .i64 0 ∧ wr = w3) (fun _ _ => 0)
      case atStart => exact ⟨rfl, rfl⟩
      case round =>
        obtain ⟨rfl, rfl⟩ := hrel
        go_wp2_with fail
        refine (HSP.out _ (HT.out.then_ B3.out)).mono ?_
        rintro e w4 ⟨b4, ⟨-, rfl⟩ | ⟨hy, -⟩⟩
        · have B4 := Lib.hid (below_then B3.out b4)
          clear b4
          go_wp2_with fail
          go_loopw [11] (fun s11 wr => s11 = .int .i64 0 ∧ wr = w4) (fun _ _ => 0)
          case atStart => exact ⟨rfl, rfl⟩
          case round =>
            obtain ⟨rfl, rfl⟩ := hrel
            go_wp2_with fail
            go_ret
            exact ⟨rfl, B4.out⟩
        · rw [HNO.out] at hy; cases hy
    · rw [HNO.out] at hy; cases hy
  · have B2 := Lib.hid (below_then B1.out b2)
    have HYES := Lib.hid hyes
    have HROW := Lib.hid hrow
    have hgl := lt_of_block hrow
    have HG := Lib.hid (Nat.le_trans B1.out.size hg)
    have HGL := Lib.hid hgl
    clear b2 hyes hrow hg hgl
    go_wp2_with fail
    refine (HRS.out _ (HT.out.then_ B2.out)).mono ?_
    rintro e w3 ⟨b3, ⟨hn, -⟩ | ⟨-, wa, wc, rfl, hwant⟩⟩
    · rw [HYES.out] at hn; cases hn
    · have B3 := Lib.hid (below_then B2.out b3)
      have HR3 := Lib.hid (row_then HROW.out b3)
      have HW3 := Lib.hid hwant
      have hnn : (((splitP p).length : Int) != ((splitP p).length : Int)) = false := by simp
      have HMX := Lib.hid (show (splitP p).length ≤ 11 by omega)
      clear b3 hwant hlc hc11
      have HGW := Lib.hid (show ∀ k x, (splitP p)[k]? = some x → ∃ h, wa = some ⟨h, 0, none⟩ ∧ h ≠ g ∧ h < w3.heap.size ∧ w3.cell? ⟨h, k, none⟩ = some (.string x) from fun k x hx => by
        obtain ⟨h, h1, h2, h3, h4⟩ := str_cell HW3.out hx
        exact ⟨h, h1, (by have := HGL.out; omega), h3, h4⟩)
      go_wp2_with fail
      go_loopw [8] (fun s8 wr => ∃ k : Nat, k ≤ (splitP p).length ∧ s8 = .int .i64 k ∧ SpRel w3 wr g (splitP p) k) (fun s8 _ => (splitP p).length - (intOf s8).toNat)
      case atStart => exact ⟨0, by omega, rfl, Only.refl _ _, _, HR3.out, fun j x _ hx => cells_at hx⟩
      case round =>
        obtain ⟨k, hk, rfl, hrel⟩ := hrel
        have HRL := Lib.hid hrel
        clear hrel
        by_cases h1 : k < (splitP p).length
        · obtain ⟨x, hx⟩ : ∃ x, (splitP p)[k]? = some x := ⟨_, List.getElem?_eq_getElem h1⟩
          obtain ⟨hc, hf⟩ := HRL.out.at_ hx
          obtain ⟨h, rfl, hne, hlt, hw3⟩ := HGW.out k x hx
          have hw : wr.cell? ⟨h, k, none⟩ = some (.string x) := (cell_block (HRL.out.only.block h hlt (by simpa using hne))).trans hw3
          have hk0 : ¬ ((k : Int) < 0) := by omega
          have HK1 := Lib.hid (show k + 1 ≤ (splitP p).length by omega)
          have hmx := HMX.out
          have hxx : (x.toList == x.toList) = true := by simp
          clear hx hw3
          go_wp2_with fail
          go_region
          go_wp2_with fail
          go_roundw
          case rel => exact ⟨k + 1, HK1.out, by go_num, HRL.out.drew.next _⟩
          case measure => have := HK1.out; simp [intOf]; omega
        · have BR := Lib.hid (show Below w.heap.size w wr from ((Only.of_below (S := []) B3.out).then_ HRL.out.only (by have := HG.out; simp; omega)).below)
          go_wp2_with fail
          refine (HSP.out _ (HT.out.then_ BR.out)).mono ?_
          rintro e w4 ⟨b4, ⟨hn, -⟩ | ⟨-, g2, c2, hg2, rfl, hlc2, hc2, hrow2⟩⟩
          · rw [HYES.out] at hn; cases hn
          · have B4 := Lib.hid (below_then BR.out b4)
            have HR4 := Lib.hid hrow2
            have HGW4 := Lib.hid (show ∀ k x, (splitP p)[k]? = some x → ∃ h, wa = some ⟨h, 0, none⟩ ∧ w4.cell? ⟨h, k, none⟩ = some (.string x) from fun k x hx => by
              obtain ⟨h, h1, h2, h3, h4⟩ := HGW.out k x hx
              have hw : wr.cell? ⟨h, k, none⟩ = some (.string x) := (cell_block (HRL.out.only.block h h3 (by simpa using h2))).trans h4
              exact ⟨h, h1, (b4.cell (cell_lt hw)).trans hw⟩)
            clear b4 hrow2 hlc2 hc2 hg2
            go_wp2_with fail
            go_loopw [11] (fun s11 wv => ∃ k : Nat, k ≤ (splitP p).length ∧ s11 = .int .i64 k ∧ Below w4.heap.size w4 wv) (fun s11 _ => (splitP p).length - (intOf s11).toNat)
            case atStart => exact ⟨0, by omega, rfl, Below.refl _ _⟩
            case round =>
              obtain ⟨k, hk, rfl, hb⟩ := hrel
              by_cases h1 : k < (splitP p).length
              · obtain ⟨x, hx⟩ : ∃ x, (splitP p)[k]? = some x := ⟨_, List.getElem?_eq_getElem h1⟩
                have hc0 : w4.cell? ⟨g2, k, none⟩ = some (.string x) := (row_cells HR4.out k).trans (cells_at hx)
                have hc := (hb.cell (cell_lt hc0)).trans hc0
                obtain ⟨h, rfl, hw3⟩ := HGW4.out k x hx
                have hw := (hb.cell (cell_lt hw3)).trans hw3
                have hk0 : ¬ ((k : Int) < 0) := by omega
                have HK1 := Lib.hid (show k + 1 ≤ (splitP p).length by omega)
                have hmx := HMX.out
                have hxx : (x.toList == x.toList) = true := by simp
                clear hx hw3 hc0
                go_wp2_with fail
                go_region
                go_wp2_with fail
                go_roundw
                case rel => exact ⟨k + 1, HK1.out, by go_num, hb.drew⟩
                case measure => have := HK1.out; simp [intOf]; omega
              · go_wp2_with fail
                go_ret
                exact ⟨rfl, below_then B4.out hb⟩
end Go.Proofs.YtkklnfihjikilaaDoor
