/- The document's own reader of layer 2: where it lies; wrong, get4, get8, least. No statement is proved here. -/
import Derived.Test.YtjfgmcmnpekahaaDoorBCurW
import Derived.Test.YtjfgmcmnpekahaaDoorBStep
namespace Go.Proofs.YtjfgmcmnpekahaaDoor
open Go.RowKit
set_option maxRecDepth 100000

/-- The document's reader lies in block g: its bytes, its place, the first fault. -/
structure RCur (w : World) (g : Nat) (K : Byt) (i : Nat) (fc fq : Int) : Prop where
  row : w.heap[g]? = some (.cells #[.slice K.a K.bs.length K.c, .int .i64 i, .int .i64 fc, .int .i64 fq] 56 (0, 0))
  inb : InB w K.a K.bs
  low : ∀ b o, K.a = some ⟨b, o, none⟩ → 1 ≤ K.bs.length → b ≠ g
  cap : K.bs.length ≤ K.c
  far : K.bs.length ≤ 140737488351232
  byte : isB K.bs
theorem RCur.keep {w w' : World} {g : Nat} {K : Byt} {i j : Nat} {fc fq c q : Int} (h : RCur w g K i fc fq) (ho : Only [g] w w') (hr : w'.heap[g]? = some (.cells #[.slice K.a K.bs.length K.c, .int .i64 j, .int .i64 c, .int .i64 q] 56 (0, 0))) : RCur w' g K j c q := by
  refine ⟨hr, fun k x hx => ?_, h.low, h.cap, h.far, h.byte⟩
  obtain ⟨b, o, e, hc⟩ := h.inb k x hx
  refine ⟨b, o, e, (World.cell?_of_block (ho.block b (cell_lt hc) ?_)).trans hc⟩
  have := h.low b o e (by have := lt_of_get hx; omega)
  simpa using this
theorem RCur.then_ {w w' : World} {g : Nat} {K : Byt} {i : Nat} {fc fq : Int} (h : RCur w g K i fc fq) (hb : Below w.heap.size w w') : RCur w' g K i fc fq := h.keep (Only.of_below hb) (row_then h.row hb)
theorem RCur.drew {w : World} {g : Nat} {K : Byt} {i : Nat} {fc fq : Int} (h : RCur w g K i fc fq) : RCur w.drew g K i fc fq := ⟨h.row, h.inb, h.low, h.cap, h.far, h.byte⟩
theorem RCur.at_ {w : World} {g : Nat} {K : Byt} {i : Nat} {fc fq : Int} (h : RCur w g K i fc fq) (j : Nat) : RCur (w.setCell ⟨g, 1, none⟩ (.int .i64 j)) g K j fc fq := by
  refine h.keep ((Only.refl [g] w).setCell (p := ⟨g, 1, none⟩) (.inl (by simp)) _) ?_
  rw [heap_setCell_same _ g 1 _ _ _ h.row]
  rfl
theorem RCur.past {w0 w w' : World} {g : Nat} {K : Byt} {i j : Nat} {fc fq c q : Int} {S : List Nat} (h0 : RCur w0 g K i fc fq) (h : RCur w g K j c q) (ho : Only S w w') (hS : ∀ x ∈ S, w0.heap.size ≤ x) : RCur w' g K j c q := by
  have hg := lt_of_block h0.row
  refine ⟨keep_row ho h.row (fun hx => by have := hS _ hx; omega), fun k x hx => ?_, h.low, h.cap, h.far, h.byte⟩
  obtain ⟨b, o, e, hc⟩ := h.inb k x hx
  obtain ⟨b', o', e', hc'⟩ := h0.inb k x hx
  rw [e] at e'
  injection e' with e'
  injection e' with e1 e2
  subst e1 e2
  refine ⟨b, o, e, (World.cell?_of_block (ho.block b (cell_lt hc) fun hx => ?_)).trans hc⟩
  have := hS _ hx
  have := cell_lt hc'
  simp at this
  omega
theorem RCur.cells0 {w : World} {g : Nat} {K : Byt} {i : Nat} {fc fq : Int} (h : RCur w g K i fc fq) : w.cell? ⟨g, 0, none⟩ = some (.slice K.a K.bs.length K.c) ∧ w.cell? ⟨g, 1, none⟩ = some (.int .i64 i) ∧ w.cell? ⟨g, 2, none⟩ = some (.int .i64 fc) ∧ w.cell? ⟨g, 3, none⟩ = some (.int .i64 fq) :=
  ⟨row_cells h.row 0, row_cells h.row 1, row_cells h.row 2, row_cells h.row 3⟩
theorem RCur.byte_at {w : World} {g : Nat} {K : Byt} {i : Nat} {fc fq : Int} (h : RCur w g K i fc fq) {b o : Nat} (ha : K.a = some ⟨b, o, none⟩) {j : Nat} {x : Int} (hx : K.bs[j]? = some x) : w.cell? ⟨b, o + j, none⟩ = some (.int .u8 x) := by
  obtain ⟨b', o', e, hc⟩ := h.inb j x hx
  rw [ha] at e
  injection e with e
  injection e with e1 e2
  subst e1 e2
  exact hc
theorem RCur.some_ {w : World} {g : Nat} {K : Byt} {i : Nat} {fc fq : Int} (h : RCur w g K i fc fq) (hl : 1 ≤ K.bs.length) : ∃ b o, K.a = some ⟨b, o, none⟩ := by
  obtain ⟨b, o, ha, -⟩ := h.inb 0 _ (List.getElem?_eq_getElem (by omega))
  exact ⟨b, o, ha⟩
set_option maxHeartbeats 1000000 in
theorem wrong_any {g : Nat} {K : Byt} {i : Nat} {fq : Int} (c q : Int) (w : World) (h : RCur w g K i 0 fq) : Calls Tryd.prog 42 #[.pointer (some ⟨g, 0, none⟩), .int .i64 c, .int .i64 q] w fun e w' => e = .returned (.tuple #[]) ∧ RCur w' g K i c q ∧ Only [g] w w' := by
  have HC := Lib.hid h
  have hrow := row_cells h.row
  have hfr := rowf h.row
  clear h
  go_enter Tryd.func42, Tryd.ntmps42
  go_wp2_with fail
  go_end0
  have o2 : Only [g] w ((w.setCell ⟨g, 2, none⟩ (.int .i64 c)).setCell ⟨g, 3, none⟩ (.int .i64 q)) := ((Only.refl [g] w).setCell (p := ⟨g, 2, none⟩) (.inl (by simp)) _).setCell (p := ⟨g, 3, none⟩) (.inl (by simp)) _
  refine ⟨rfl, HC.out.keep o2 ?_, o2⟩
  rw [heap_setCell_same _ g 3 _ _ _ (heap_setCell_same _ g 2 _ _ _ HC.out.row)]
  rfl
theorem num_drop {R : List Int} {k : Nat} {x : Int} (hx : R[k]? = some x) : num (R.drop k) = num (R.drop (k + 1)) * 256 + x := by
  obtain ⟨h1, rfl⟩ := List.getElem?_eq_some_iff.1 hx
  rw [List.drop_eq_getElem_cons h1, num]
  omega
set_option maxHeartbeats 4000000 in
theorem get4_any {g : Nat} {K : Byt} {i : Nat} {fc fq : Int} (w : World) (h : RCur w g K i fc fq) (h4 : i + 4 ≤ K.bs.length) : Calls Tryd.prog 43 #[.pointer (some ⟨g, 0, none⟩)] w fun e w' => e = .returned (.int .i64 (num ((K.bs.drop i).take 4))) ∧ Below w.heap.size w w' := by
  have HC := Lib.hid h
  have hcap := h.cap
  have hfar := h.far
  obtain ⟨b, o, ha⟩ := h.some_ (by omega)
  have HA := Lib.hid ha
  have hR : isB ((K.bs.drop i).take 4) := isB_take (isB_dropn h.byte _) _
  have HR := Lib.hid hR
  have hRl : ((K.bs.drop i).take 4).length = 4 := by rw [List.length_take, List.length_drop]; omega
  have HRL := Lib.hid hRl
  clear h ha hR hRl
  go_enter Tryd.func43, Tryd.ntmps43
  go_wp2_with fail
  go_loopw [3, 4] (fun n c wr => ∃ k : Nat, k ≤ 4 ∧ c = .int .i64 ((k : Int) - 1) ∧ n = .int .i64 (num (((K.bs.drop i).take 4).drop k)) ∧ Below w.heap.size w wr) (fun _ c _ => (intOf c + 1).toNat)
  case atStart => exact ⟨4, by omega, rfl, by rw [List.drop_of_length_le (by rw [HRL.out]; omega)]; rfl, Below.refl _ _⟩
  case round =>
    obtain ⟨k, hk, rfl, rfl, hb⟩ := hrel
    have HCr := Lib.hid (HC.out.then_ hb)
    have HB := Lib.hid hb
    clear hb
    by_cases hk0 : k = 0
    · subst hk0
      go_wp2_with fail
      go_ret
      exact ⟨rfl, HB.out⟩
    · obtain ⟨j, rfl⟩ : ∃ j, k = j + 1 := ⟨k - 1, by omega⟩
      obtain ⟨x, hx⟩ : ∃ x, ((K.bs.drop i).take 4)[j]? = some x := ⟨_, List.getElem?_eq_getElem (by rw [HRL.out]; omega)⟩
      obtain ⟨x0, x1⟩ := HR.out x (List.mem_of_getElem? hx)
      have HD := Lib.hid (num_drop hx)
      obtain ⟨n0, n1⟩ := num_range (isB_dropn HR.out (j + 1))
      have hn1 : num (((K.bs.drop i).take 4).drop (j + 1)) < 16777216 := by
        have hl : (((K.bs.drop i).take 4).drop (j + 1)).length ≤ 3 := by rw [List.length_drop, HRL.out]; omega
        have : (256 : Int) ^ (((K.bs.drop i).take 4).drop (j + 1)).length ≤ 256 ^ 3 := by
          have := Nat.pow_le_pow_right (show 1 ≤ 256 by omega) hl
          have e : ∀ m : Nat, (256 : Int) ^ m = ((256 ^ m : Nat) : Int) := fun m => by simp
          rw [e, e]
          omega
        have e3 : (256 : Int) ^ 3 = 16777216 := by decide
        omega
      generalize num (((K.bs.drop i).take 4).drop (j + 1)) = n at HD n0 hn1 ⊢
      have hc0 : wr.cell? ⟨g, 0, none⟩ = some (.slice (some ⟨b, o, none⟩) K.bs.length K.c) := by
        have := HCr.out.cells0.1
        rw [HA.out] at this
        exact this
      have hc1 : wr.cell? ⟨g, 1, none⟩ = some (.int .i64 i) := HCr.out.cells0.2.1
      have hcx : wr.cell? ⟨b, o + (i + j), none⟩ = some (.int .u8 x) := by
        rw [List.getElem?_take_of_lt (by omega), List.getElem?_drop] at hx
        exact HCr.out.byte_at HA.out hx
      have hj4 : j < 4 := by omega
      clear hx n1 hk hk0
      go_wp2_with fail
      go_region
      go_wp2_with fail
      go_roundw
      case rel => exact ⟨j, by omega, by go_num, by rw [HD.out], HB.out.drew⟩
      case measure => simp [intOf]
set_option maxHeartbeats 4000000 in
theorem get8_any {g : Nat} {K : Byt} {i : Nat} {fc fq : Int} (w : World) (h : RCur w g K i fc fq) (h8 : i + 8 ≤ K.bs.length) : Calls Tryd.prog 72 #[.pointer (some ⟨g, 0, none⟩)] w fun e w' => e = .returned (.int .i64 (wrap64 (num ((K.bs.drop i).take 8)))) ∧ RCur w' g K (i + 8) fc fq ∧ Only [g] w w' := by
  have HC := Lib.hid h
  have hcap := h.cap
  have hfar := h.far
  obtain ⟨b, o, ha⟩ := h.some_ (by omega)
  have HA := Lib.hid ha
  have hR : isB ((K.bs.drop i).take 8) := isB_take (isB_dropn h.byte _) _
  have HR := Lib.hid hR
  have hRl : ((K.bs.drop i).take 8).length = 8 := by rw [List.length_take, List.length_drop]; omega
  have HRL := Lib.hid hRl
  clear h ha hR hRl
  go_enter Tryd.func72, Tryd.ntmps72
  go_wp2_with fail
  go_loopw [3, 4] (fun n c wr => ∃ k : Nat, k ≤ 8 ∧ c = .int .i64 ((k : Int) - 1) ∧ n = .int .u64 (num (((K.bs.drop i).take 8).drop k)) ∧ Below w.heap.size w wr) (fun _ c _ => (intOf c + 1).toNat)
  case atStart => exact ⟨8, by omega, rfl, by rw [List.drop_of_length_le (by rw [HRL.out]; omega)]; rfl, Below.refl _ _⟩
  case round =>
    obtain ⟨k, hk, rfl, rfl, hb⟩ := hrel
    have HCr := Lib.hid (HC.out.then_ hb)
    have HB := Lib.hid hb
    clear hb
    by_cases hk0 : k = 0
    · subst hk0
      have hrow := row_cells HCr.out.row
      have hfr := rowf HCr.out.row
      obtain ⟨n0, n1⟩ := num_range HR.out
      rw [HRL.out] at n1
      have e8 : (256 : Int) ^ 8 = 18446744073709551616 := by decide
      rw [e8] at n1
      rw [List.drop_zero]
      generalize hnn : num ((K.bs.drop i).take 8) = n at n0 n1 ⊢
      have HNN := Lib.hid hnn
      clear e8 hk hnn
      go_wp2_with fail
      go_ret
      exact ⟨ret_int (by rw [HNN.out]), HCr.out.at_ (i + 8), (Only.of_below HB.out).setCell (p := ⟨g, 1, none⟩) (.inl (by simp)) _⟩
    · obtain ⟨j, rfl⟩ : ∃ j, k = j + 1 := ⟨k - 1, by omega⟩
      obtain ⟨x, hx⟩ : ∃ x, ((K.bs.drop i).take 8)[j]? = some x := ⟨_, List.getElem?_eq_getElem (by rw [HRL.out]; omega)⟩
      obtain ⟨x0, x1⟩ := HR.out x (List.mem_of_getElem? hx)
      have HD := Lib.hid (num_drop hx)
      obtain ⟨n0, n1⟩ := num_range (isB_dropn HR.out (j + 1))
      have hn1 : num (((K.bs.drop i).take 8).drop (j + 1)) < 72057594037927936 := by
        have hl : (((K.bs.drop i).take 8).drop (j + 1)).length ≤ 7 := by rw [List.length_drop, HRL.out]; omega
        have : (256 : Int) ^ (((K.bs.drop i).take 8).drop (j + 1)).length ≤ 256 ^ 7 := by
          have := Nat.pow_le_pow_right (show 1 ≤ 256 by omega) hl
          have e : ∀ m : Nat, (256 : Int) ^ m = ((256 ^ m : Nat) : Int) := fun m => by simp
          rw [e, e]
          omega
        have e3 : (256 : Int) ^ 7 = 72057594037927936 := by decide
        omega
      generalize num (((K.bs.drop i).take 8).drop (j + 1)) = n at HD n0 hn1 ⊢
      have hc0 : wr.cell? ⟨g, 0, none⟩ = some (.slice (some ⟨b, o, none⟩) K.bs.length K.c) := by
        have := HCr.out.cells0.1
        rw [HA.out] at this
        exact this
      have hc1 : wr.cell? ⟨g, 1, none⟩ = some (.int .i64 i) := HCr.out.cells0.2.1
      have hcx : wr.cell? ⟨b, o + (i + j), none⟩ = some (.int .u8 x) := by
        rw [List.getElem?_take_of_lt (by omega), List.getElem?_drop] at hx
        exact HCr.out.byte_at HA.out hx
      have hj4 : j < 8 := by omega
      clear hx n1 hk hk0
      go_wp2_with fail
      go_region
      go_wp2_with fail
      go_roundw
      case rel => exact ⟨j, by omega, by go_num, by rw [HD.out], HB.out.drew⟩
      case measure => simp [intOf]
def leastN (k : Int) : Int := if k = 3 ∨ k = 10 then 8 else if k = 4 then 4 else if k = 7 then 5 else if k = 8 then 12 else if k = 9 then 1 else 0
theorem least_any (k : Nat) (h1 : 1 ≤ k) (h2 : k ≤ 11) (w : World) : Calls Tryd.prog 71 #[.int .i64 k] w fun e w' => e = .returned (.int .i64 (leastN k)) ∧ Below w.heap.size w w' := by
  obtain rfl | rfl | rfl | rfl | rfl | rfl | rfl | rfl | rfl | rfl | rfl : k = 1 ∨ k = 2 ∨ k = 3 ∨ k = 4 ∨ k = 5 ∨ k = 6 ∨ k = 7 ∨ k = 8 ∨ k = 9 ∨ k = 10 ∨ k = 11 := by omega
  all_goals
    go_enter Tryd.func71, Tryd.ntmps71
    go_wp2_with fail
    go_ret
    exact ⟨rfl, Below.refl _ _⟩
end Go.Proofs.YtjfgmcmnpekahaaDoor
