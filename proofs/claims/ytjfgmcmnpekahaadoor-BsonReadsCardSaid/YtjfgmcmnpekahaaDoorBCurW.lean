/- The program's cursor over bytes and the contracts of all that reads at it. No statement is proved here. -/
import Derived.Test.YtjfgmcmnpekahaaDoorBPure
import Derived.WalkSmall
import Derived.Laws.BitsLemmas
import Derived.Shelf.Bytes.IndexByte
import Derived.Shelf.Strconv.Itoa3
import Derived.Lib.LaidTab
namespace Go.Proofs.YtjfgmcmnpekahaaDoor
open Go.RowKit
set_option maxRecDepth 100000

theorem rowf {w : World} {g : Nat} {cs : Array Value} {t : TypeId} (h : w.heap[g]? = some (.cells cs t (0, 0))) : ∀ o, w.frozen? ⟨g, o, none⟩ = false := fun o => frozen_of_row w g o cs t h
/-- A call ends by a fault. -/
def faultE (c q : Int) : Ending := .panicked [{ v := .iface 36 (.agg #[.int .i64 c, .int .i64 q]), recovered := false }]
/-- The bytes that a cursor goes through. -/
structure Byt where
  a : Option Addr
  c : Nat
  bs : List Int
/-- The program's reader lies in block g: its bytes, its place, where its room ends, how deep it is. -/
structure Cur (w : World) (g : Nat) (K : Byt) (i r : Nat) (dp : Int) : Prop where
  row : w.heap[g]? = some (.cells #[.slice K.a K.bs.length K.c, .int .i64 i, .int .i64 r, .int .i64 dp] 61 (0, 0))
  inb : InB w K.a K.bs
  low : ∀ b o, K.a = some ⟨b, o, none⟩ → 1 ≤ K.bs.length → b ≠ g
  le : i ≤ r
  room : r ≤ K.bs.length
  cap : K.bs.length ≤ K.c
  far : K.bs.length ≤ 140737488351232
  byte : isB K.bs
/-- What is left within the room. -/
def Byt.rest (K : Byt) (i r : Nat) : List Int := (K.bs.drop i).take (r - i)
theorem Cur.len {w : World} {g : Nat} {K : Byt} {i r : Nat} {dp : Int} (h : Cur w g K i r dp) : (K.rest i r).length = r - i := by
  have := h.room
  unfold Byt.rest
  rw [List.length_take, List.length_drop]
  omega
theorem Cur.restB {w : World} {g : Nat} {K : Byt} {i r : Nat} {dp : Int} (h : Cur w g K i r dp) : isB (K.rest i r) := isB_take (isB_dropn h.byte _) _
theorem rest_get {K : Byt} {i r k : Nat} (hk : k < r - i) : (K.rest i r)[k]? = K.bs[i + k]? := by
  unfold Byt.rest
  rw [List.getElem?_take_of_lt hk, List.getElem?_drop]
theorem rest_drop {K : Byt} {i r m : Nat} : (K.rest i r).drop m = K.rest (i + m) r := by
  unfold Byt.rest
  rw [List.drop_take, List.drop_drop]
  congr 1
  omega
theorem rest_take {K : Byt} {i r m : Nat} (hm : m ≤ r - i) : (K.rest i r).take m = K.rest i (i + m) := by
  unfold Byt.rest
  rw [List.take_take]
  congr 1
  omega
/-- The cells of the bytes are in some block other than the reader's. -/
theorem Cur.keep {w w' : World} {g : Nat} {K : Byt} {i r j s : Nat} {dp dp' : Int} (h : Cur w g K i r dp) (ho : Only [g] w w') (hr : w'.heap[g]? = some (.cells #[.slice K.a K.bs.length K.c, .int .i64 j, .int .i64 s, .int .i64 dp'] 61 (0, 0))) (hj : j ≤ s) (hs : s ≤ K.bs.length) : Cur w' g K j s dp' := by
  refine ⟨hr, fun k x hx => ?_, h.low, hj, hs, h.cap, h.far, h.byte⟩
  obtain ⟨b, o, e, hc⟩ := h.inb k x hx
  refine ⟨b, o, e, (World.cell?_of_block (ho.block b (cell_lt hc) ?_)).trans hc⟩
  have := h.low b o e (by have := lt_of_get hx; omega)
  simpa using this
theorem Cur.then_ {w w' : World} {g : Nat} {K : Byt} {i r : Nat} {dp : Int} (h : Cur w g K i r dp) (hb : Below w.heap.size w w') : Cur w' g K i r dp := h.keep (Only.of_below hb) (row_then h.row hb) h.le h.room
theorem Cur.drew {w : World} {g : Nat} {K : Byt} {i r : Nat} {dp : Int} (h : Cur w g K i r dp) : Cur w.drew g K i r dp := ⟨h.row, h.inb, h.low, h.le, h.room, h.cap, h.far, h.byte⟩
theorem Cur.at_ {w : World} {g : Nat} {K : Byt} {i r : Nat} {dp : Int} (h : Cur w g K i r dp) {j : Nat} (hj : j ≤ r) : Cur (w.setCell ⟨g, 1, none⟩ (.int .i64 j)) g K j r dp := by
  refine h.keep ((Only.refl [g] w).setCell (p := ⟨g, 1, none⟩) (.inl (by simp)) _) ?_ hj h.room
  rw [heap_setCell_same _ g 1 _ _ _ h.row]
  rfl
theorem ofInt_wrap64 (z : Int) : BitVec.ofInt 64 (wrap64 z) = BitVec.ofInt 64 z := by
  apply BitVec.eq_of_toInt_eq
  rw [BitVec.toInt_ofInt, BitVec.toInt_ofInt]
  unfold wrap64
  rw [Int.sub_eq_add_neg]
  simp only [Int.bmod_def]
  omega
/-- Bits joined: lower ones, and higher ones that may have gone round. -/
theorem or_i64 (i a h : Nat) (ha : a < 2 ^ i) (hh : h % 2 ^ i = 0) (hi : i ≤ 64) (h64 : h < 2 ^ 64) : bits .or .i64 (a : Int) (wrap64 (h : Int)) = wrap64 ((a : Int) + h) := by
  have ha64 : a < 2 ^ 64 := Nat.lt_of_lt_of_le ha (Nat.pow_le_pow_right (by decide) hi)
  have e : ∀ n : Int, IntKind.i64.wrap n = wrap64 n := fun n => by rw [IntKind.wrap_i64]; unfold wrap64; rfl
  have hq : h = 2 ^ i * (h / 2 ^ i) := by
    have := Nat.div_add_mod h (2 ^ i)
    omega
  have ho : a ||| h = a + h := by
    rw [Nat.or_comm]
    conv => lhs; rw [hq]
    rw [← Nat.two_pow_add_eq_or_of_lt ha (h / 2 ^ i), ← hq]
    omega
  simp only [bits]
  show IntKind.i64.wrap ((BitVec.ofInt 64 (a : Int) ||| BitVec.ofInt 64 (wrap64 (h : Int))).toNat : Int) = _
  rw [ofInt_wrap64, e, BitVec.ofInt_natCast, BitVec.ofInt_natCast, BitVec.toNat_or, BitVec.toNat_ofNat, BitVec.toNat_ofNat, Nat.mod_eq_of_lt ha64, Nat.mod_eq_of_lt h64, ho]
  simp
set_option maxHeartbeats 1000000 in
theorem stop_any (c q : Int) (w : World) : Calls Tryd.prog 74 #[.int .i64 c, .int .i64 q] w fun e w' => e = faultE c q ∧ w' = w := by
  go_enter Tryd.func74, Tryd.ntmps74
  go_wp2_with fail
  exact ⟨rfl, rfl, rfl⟩
set_option maxHeartbeats 1000000 in
theorem need_any {g : Nat} {K : Byt} {i r : Nat} {dp : Int} (many : Int) (w : World) (h : Cur w g K i r dp) : Calls Tryd.prog 89 #[.pointer (some ⟨g, 0, none⟩), .int .i64 many] w fun e w' => (((r - i : Nat) : Int) < many ∧ e = faultE 20 i ∨ ¬ ((r - i : Nat) : Int) < many ∧ e = .returned (.tuple #[])) ∧ Below w.heap.size w w' := by
  have hrow := row_cells h.row
  have h1 := h.le
  have h2 := h.room
  have h3 := h.far
  clear h
  go_enter Tryd.func89, Tryd.ntmps89
  go_wp2_with fail
  go_region
  go_wp2_with (go_at_call 74; refine (stop_any _ _ _).mono ?_; rintro e w1 ⟨rfl, rfl⟩)
  · try simp only [Exit.inBlock, Exit.then]
    refine ⟨rfl, .inl ⟨by omega, rfl⟩, (Below.refl _ _).drew⟩
  · go_end0
    refine ⟨.inr ⟨by omega, rfl⟩, (Below.refl _ _).drew⟩
/-- Bytes of the cursor, as a slice of them reads. -/
theorem Cur.slice {w : World} {g : Nat} {K : Byt} {i r : Nat} {dp : Int} (h : Cur w g K i r dp) {b o : Nat} (ha : K.a = some ⟨b, o, none⟩) {j s : Nat} (hs : s ≤ K.bs.length) : InB w (some ⟨b, o + j, none⟩) (K.rest j s) := by
  intro k x hx
  have hk : k < s - j := by
    have := lt_of_get hx
    unfold Byt.rest at this
    rw [List.length_take, List.length_drop] at this
    omega
  rw [rest_get hk] at hx
  obtain ⟨b', o', e, hc⟩ := h.inb _ x hx
  rw [ha] at e
  injection e with e
  injection e with e1 e2
  subst e1 e2
  exact ⟨b, o + j, rfl, by rw [Nat.add_assoc]; exact hc⟩
set_option maxHeartbeats 2000000 in
theorem take_any {g : Nat} {K : Byt} {i r : Nat} {dp : Int} (many : Nat) (w : World) (h : Cur w g K i r dp) (hr : i < K.bs.length) : Calls Tryd.prog 81 #[.pointer (some ⟨g, 0, none⟩), .int .i64 many] w fun e w' => (r - i < many ∧ e = faultE 20 i ∧ Only [g] w w') ∨ (many ≤ r - i ∧ e = .returned (.string (strOfNums ((K.rest i r).take many))) ∧ Cur w' g K (i + many) r dp ∧ Only [g] w w') := by
  have HC := Lib.hid h
  have h1 := h.le
  have h2 := h.room
  have h3 := h.far
  have h4 := h.cap
  clear h
  go_enter Tryd.func81, Tryd.ntmps81
  go_wp2_with fail
  refine (need_any (i := i) (r := r) (K := K) (dp := dp) many w HC.out).mono ?_
  rintro e w1 ⟨⟨hlt, rfl⟩ | ⟨hge, rfl⟩, b1⟩
  · dsimp only [faultE]
    go_wp2_with fail
    try simp only [Exit.inBlock, Exit.then]
    exact ⟨rfl, .inl ⟨by omega, rfl, Only.of_below b1⟩⟩
  · have HC1 := Lib.hid (HC.out.then_ b1)
    have hrow := row_cells HC1.out.row
    have hfr := rowf HC1.out.row
    have B1 := Lib.hid b1
    obtain ⟨b, o, ha, -⟩ := HC.out.inb i _ (List.getElem?_eq_getElem hr)
    have HA := Lib.hid ha
    have HU := Lib.hid (show Cur (w1.setCell ⟨g, 1, none⟩ (.int .i64 ((i : Int) + (many : Int)))) g K (i + many) r dp from HC1.out.at_ (j := i + many) (by omega))
    have hmr : many ≤ r - i := by omega
    clear b1 ha
    go_wp2_with fail
    have OU := Lib.hid (show Only [g] w (w1.setCell ⟨g, 1, none⟩ (.int .i64 ((i : Int) + (many : Int)))) from (Only.of_below B1.out).setCell (p := ⟨g, 1, none⟩) (.inl (by simp)) _)
    generalize w1.setCell ⟨g, 1, none⟩ (.int .i64 ((i : Int) + (many : Int))) = U at HU OU ⊢
    have hc0 : U.cell? ⟨g, 0, none⟩ = some (.slice (some ⟨b, o, none⟩) K.bs.length K.c) := by
      have := row_cells HU.out.row 0
      rw [HA.out] at this
      exact this
    have hc1 : U.cell? ⟨g, 1, none⟩ = some (.int .i64 ((i : Int) + (many : Int))) := row_cells HU.out.row 1
    have kd : (convert 28 9 (.slice (some ⟨b, o + i, none⟩) many (K.c - i))).run Tryd.prog U.drew = .ok (.string (strOfNums (K.rest i (i + many)))) U.drew :=
      run_str U.drew _ many _ _ (by unfold Byt.rest; rw [List.length_take, List.length_drop]; omega) (HU.out.drew.slice HA.out (j := i) (s := i + many) (by omega)) (fun h => by cases h)
    have hcap : ¬ K.c = i := by omega
    clear hrow hfr HC1 B1
    go_region
    go_wp2_with fail
    go_ret
    exact .inr ⟨hmr, by rw [rest_take hmr]; rfl, HU.out.drew, OU.out.drew⟩
theorem num_snoc : ∀ (l : List Int) (x : Int), num (l ++ [x]) = num l + x * 256 ^ l.length := by
  intro l
  induction l with
  | nil => intro x; simp [num]
  | cons b r ih =>
    intro x
    rw [List.cons_append, num, num, ih, List.length_cons, Int.pow_succ]
    rw [show x * (256 ^ r.length * 256) = 256 * (x * 256 ^ r.length) by rw [Int.mul_comm (256 ^ r.length) 256, ← Int.mul_assoc, Int.mul_comm x 256, Int.mul_assoc]]
    omega
theorem num_step {R : List Int} {k : Nat} {x : Int} (hx : R[k]? = some x) : num (R.take (k + 1)) = num (R.take k) + x * 256 ^ k := by
  have hk := lt_of_get hx
  rw [List.take_add_one, hx, Option.toList_some, num_snoc, List.length_take, Nat.min_eq_left (by omega)]
theorem pow256 (k : Nat) : (256 : Int) ^ k = 2 ^ (8 * k) := by rw [Int.pow_mul]; rfl
/-- One byte more is joined to those below. -/
theorem num_or {R : List Int} (hB : isB R) {k : Nat} {x : Int} (hx : R[k]? = some x) (hk : k < 8) : bits .or .i64 (wrap64 (num (R.take k))) (wrap64 (x * 2 ^ (8 * k))) = wrap64 (num (R.take (k + 1))) := by
  have hkl := lt_of_get hx
  obtain ⟨x0, x1⟩ := hB x (List.mem_of_getElem? hx)
  obtain ⟨n0, n1⟩ := num_range (isB_take hB k)
  rw [List.length_take, Nat.min_eq_left (by omega), pow256] at n1
  rw [num_step hx, pow256]
  obtain ⟨a, ha⟩ := Int.eq_ofNat_of_zero_le n0
  obtain ⟨b, hb⟩ := Int.eq_ofNat_of_zero_le x0
  subst hb
  have hp : (2 : Int) ^ (8 * k) = ((2 ^ (8 * k) : Nat) : Int) := by simp
  rw [ha] at n1 ⊢
  rw [hp] at n1 ⊢
  have hle : 2 ^ (8 * k) ≤ 2 ^ 56 := Nat.pow_le_pow_right (by decide) (by omega)
  have ha' : a < 2 ^ (8 * k) := by omega
  have hw : wrap64 (a : Int) = a := by unfold wrap64; omega
  have hm : ((b : Int) * ((2 ^ (8 * k) : Nat) : Int)) = ((b * 2 ^ (8 * k) : Nat) : Int) := by simp
  have hlt : b * 2 ^ (8 * k) < 2 ^ 64 := by
    have : b * 2 ^ (8 * k) ≤ 255 * 2 ^ 56 := Nat.mul_le_mul (by omega) hle
    omega
  rw [hw, hm, or_i64 (8 * k) a _ ha' (Nat.mul_mod_left _ _) (by omega) hlt]
set_option maxHeartbeats 4000000 in
theorem number_any2 {g : Nat} {K : Byt} {i r : Nat} {dp : Int} (width : Nat) (hw1 : 1 ≤ width) (hwd : width ≤ 8) (w : World) (h : Cur w g K i r dp) : Calls Tryd.prog 75 #[.pointer (some ⟨g, 0, none⟩), .int .i64 width] w fun e w' => (r - i < width ∧ e = faultE 20 i ∧ Only [g] w w') ∨ (width ≤ r - i ∧ e = .returned (.int .i64 (wrap64 (num ((K.rest i r).take width)))) ∧ Cur w' g K (i + width) r dp ∧ Only [g] w w') := by
  have HC := Lib.hid h
  have h1 := h.le
  have h2 := h.room
  have h3 := h.far
  have h4 := h.cap
  clear h
  go_enter Tryd.func75, Tryd.ntmps75
  go_wp2_with fail
  refine (need_any (i := i) (r := r) (K := K) (dp := dp) width w HC.out).mono ?_
  rintro e w1 ⟨⟨hlt, rfl⟩ | ⟨hge, rfl⟩, b1⟩
  · dsimp only [faultE]
    go_wp2_with fail
    try simp only [Exit.inBlock, Exit.then]
    exact ⟨rfl, .inl ⟨by omega, rfl, Only.of_below b1⟩⟩
  · have HC1 := Lib.hid (HC.out.then_ b1)
    have B1 := Lib.hid b1
    have hr : i < K.bs.length := by omega
    obtain ⟨b, o, ha, -⟩ := HC.out.inb i _ (List.getElem?_eq_getElem hr)
    have HA := Lib.hid ha
    have hmr : width ≤ r - i := by omega
    clear b1 ha
    go_wp2_with fail
    go_loopw [5, 6, 11] (fun n _ c wr => ∃ k : Nat, k ≤ width ∧ c = .int .i64 k ∧ n = .int .i64 (wrap64 (num ((K.rest i r).take k))) ∧ Below w1.heap.size w1 wr) (fun _ _ c _ => width - (intOf c).toNat)
    case atStart => exact ⟨0, by omega, rfl, by simp [num, wrap64], Below.refl _ _⟩
    case round =>
      obtain ⟨k, hk, rfl, rfl, hb⟩ := hrel
      have HCr := Lib.hid (HC1.out.then_ hb)
      have HB := Lib.hid hb
      clear hb
      by_cases hkw : k < width
      · obtain ⟨x, hx⟩ : ∃ x, (K.rest i r)[k]? = some x := ⟨_, List.getElem?_eq_getElem (by rw [HC.out.len]; omega)⟩
        have hxb := HC.out.restB x (List.mem_of_getElem? hx)
        obtain ⟨x0, x1⟩ := hxb
        have hor := num_or HC.out.restB hx (by omega)
        have hc0 : wr.cell? ⟨g, 0, none⟩ = some (.slice (some ⟨b, o, none⟩) K.bs.length K.c) := by
          have := row_cells HCr.out.row 0
          rw [HA.out] at this
          exact this
        have hc1 : wr.cell? ⟨g, 1, none⟩ = some (.int .i64 i) := row_cells HCr.out.row 1
        have hcx : wr.cell? ⟨b, o + (i + k), none⟩ = some (.int .u8 x) := by
          rw [rest_get (by omega)] at hx
          obtain ⟨b', o', e, hc⟩ := HCr.out.inb _ x hx
          rw [HA.out] at e
          injection e with e
          injection e with e1 e2
          subst e1 e2
          exact hc
        have hsh : (0 : Int) ≤ 8 * (k : Int) := by omega
        clear hx
        go_wp2_with fail
        go_region
        go_wp2_with fail
        go_roundw
        case rel => exact ⟨k + 1, by omega, by go_num, rfl, HB.out.drew⟩
        case measure => simp [intOf]; omega
      · have hkk : k = width := by omega
        subst hkk
        have hrow := row_cells HCr.out.row
        have hfr := rowf HCr.out.row
        go_wp2_with fail
        go_ret
        exact .inr ⟨hmr, rfl, HCr.out.at_ (j := i + k) (by omega), ((Only.of_below B1.out).trans (Only.of_below HB.out)).setCell (p := ⟨g, 1, none⟩) (.inl (by simp)) _⟩
end Go.Proofs.YtjfgmcmnpekahaaDoor
namespace Go.Proofs.YtjfgmcmnpekahaaDoor
open Go.RowKit
set_option maxRecDepth 100000

/-- The package's table lies in its variable. -/
def Codes (w : World) : Prop := ∀ (k : Nat) (x : Int), kindB[k]? = some x → w.cell? ⟨0, k, none⟩ = some (.int .u8 x)
theorem Codes.then_ {w w' : World} (h : Codes w) (hb : Below w.heap.size w w') : Codes w' := fun k x hx => (hb.cell (cell_lt (h k x hx))).trans (h k x hx)
theorem Codes.drew {w : World} (h : Codes w) : Codes w.drew := h
theorem run_index_codes (k : Nat) (x : Int) (hx : kindB[k]? = some x) (w : World) :
    (Instr.index 80 (.agg #[.int .u8 0, .int .u8 255, .int .u8 10, .int .u8 18, .int .u8 2, .int .u8 3, .int .u8 4, .int .u8 5, .int .u8 7, .int .u8 8, .int .u8 9, .int .u8 127]) (.int .i64 k)).run Tryd.prog w = .ok (.int .u8 x) w := by
  have hk := lt_of_get hx
  simp only [kindB, List.length_cons, List.length_nil] at hk
  obtain ⟨i, hi, hz, hsz, hby⟩ := info_parts info_byte
  obtain rfl | rfl | rfl | rfl | rfl | rfl | rfl | rfl | rfl | rfl | rfl | rfl : k = 0 ∨ k = 1 ∨ k = 2 ∨ k = 3 ∨ k = 4 ∨ k = 5 ∨ k = 6 ∨ k = 7 ∨ k = 8 ∨ k = 9 ∨ k = 10 ∨ k = 11 := by omega
  all_goals (
    simp [kindB] at hx
    subst hx
    simp [Instr.index, run_underlying Tryd.underlying80, asIntOf, go_sem, sizeOf, typeInfo, hi, hsz])
theorem kindOf_at {k : Nat} {c : Int} (h : kindB[k]? = some c) : kindOf c = k := by
  have hk := lt_of_get h
  simp only [kindB, List.length_cons, List.length_nil] at hk
  obtain rfl | rfl | rfl | rfl | rfl | rfl | rfl | rfl | rfl | rfl | rfl | rfl : k = 0 ∨ k = 1 ∨ k = 2 ∨ k = 3 ∨ k = 4 ∨ k = 5 ∨ k = 6 ∨ k = 7 ∨ k = 8 ∨ k = 9 ∨ k = 10 ∨ k = 11 := by omega
  all_goals (
    simp [kindB] at h
    subst h
    decide)
theorem kindOf_no {c : Int} (h : ∀ (k : Nat) (x : Int), kindB[k]? = some x → x ≠ c) : kindOf c = 0 := by
  have h1 := h 1 255 rfl
  have h2 := h 2 10 rfl
  have h3 := h 3 18 rfl
  have h4 := h 4 2 rfl
  have h5 := h 5 3 rfl
  have h6 := h 6 4 rfl
  have h7 := h 7 5 rfl
  have h8 := h 8 7 rfl
  have h9 := h 9 8 rfl
  have h10 := h 10 9 rfl
  have h11 := h 11 127 rfl
  unfold kindOf
  rw [if_neg h1.symm, if_neg h2.symm, if_neg h3.symm, if_neg h4.symm, if_neg h5.symm, if_neg h6.symm, if_neg h7.symm, if_neg h8.symm, if_neg h9.symm, if_neg h10.symm, if_neg h11.symm]
set_option maxHeartbeats 2000000 in
theorem kindOf_any (c : Int) (w : World) (hC : Codes w) : Calls Tryd.prog 76 #[.int .u8 c] w fun e w' => e = .returned (.int .i64 (kindOf c)) ∧ w' = w := by
  have c0 := hC 0 _ rfl
  have c1 := hC 1 _ rfl
  have c2 := hC 2 _ rfl
  have c3 := hC 3 _ rfl
  have c4 := hC 4 _ rfl
  have c5 := hC 5 _ rfl
  have c6 := hC 6 _ rfl
  have c7 := hC 7 _ rfl
  have c8 := hC 8 _ rfl
  have c9 := hC 9 _ rfl
  have c10 := hC 10 _ rfl
  have c11 := hC 11 _ rfl
  clear hC
  go_enter Tryd.func76, Tryd.ntmps76
  go_wp2_with fail
  clear c0 c1 c2 c3 c4 c5 c6 c7 c8 c9 c10 c11
  go_loopw [3, 4, 6] (fun _ _ i wr => ∃ k : Nat, k ≤ 12 ∧ i = .int .i64 k ∧ wr = w ∧ ∀ (j : Nat) (x : Int), j < k → kindB[j]? = some x → x ≠ c) (fun _ _ i _ => 12 - (intOf i).toNat)
  case atStart => exact ⟨0, by omega, rfl, rfl, fun j x h => by omega⟩
  case round =>
    obtain ⟨k, hk, rfl, rfl, hno⟩ := hrel
    have HN := Lib.hid hno
    clear hno
    by_cases h1 : k < 12
    · obtain ⟨x, hx⟩ : ∃ x, kindB[k]? = some x := ⟨_, List.getElem?_eq_getElem (by simpa [kindB] using h1)⟩
      have kc := run_index_codes k x hx
      have HX := Lib.hid hx
      clear hx
      by_cases hxc : x = c
      · subst hxc
        go_wp2_with fail
        go_ret
        exact ⟨ret_int (kindOf_at HX.out).symm, rfl⟩
      · have hb : (x == c) = false := by simpa using hxc
        go_wp2_with fail
        go_roundw
        case rel =>
          refine ⟨k + 1, by omega, by go_num, by trivial, fun j y hj hy => ?_⟩
          by_cases e : j = k
          · subst e
            rw [HX.out] at hy
            injection hy with hy
            rw [← hy]
            exact hxc
          · exact HN.out j y (by omega) hy
        case measure => simp [intOf]; omega
    · go_wp2_with fail
      go_ret
      refine ⟨ret_int (kindOf_no fun j y hy => HN.out j y ?_ hy).symm, rfl⟩
      have := lt_of_get hy
      simp only [kindB, List.length_cons, List.length_nil] at this
      omega
theorem Cur.cells0 {w : World} {g : Nat} {K : Byt} {i r : Nat} {dp : Int} (h : Cur w g K i r dp) : w.cell? ⟨g, 0, none⟩ = some (.slice K.a K.bs.length K.c) ∧ w.cell? ⟨g, 1, none⟩ = some (.int .i64 i) ∧ w.cell? ⟨g, 2, none⟩ = some (.int .i64 r) ∧ w.cell? ⟨g, 3, none⟩ = some (.int .i64 dp) :=
  ⟨row_cells h.row 0, row_cells h.row 1, row_cells h.row 2, row_cells h.row 3⟩
/-- What the next byte tells. -/
def KindTo (g : Nat) (K : Byt) (i r : Nat) (dp : Int) (w : World) (e : Ending) (w' : World) : Prop :=
  ∃ c, K.bs[i]? = some c ∧ Only [g] w w' ∧
    ((i = r ∧ c = 0 ∧ e = .returned (.int .i64 0) ∧ Cur w' g K i r dp) ∨
     (i < r ∧ c ≠ 0 ∧ kindOf c ≠ 0 ∧ e = .returned (.int .i64 (kindOf c)) ∧ Cur w' g K (i + 1) r dp) ∨
     ((i = r ∧ c ≠ 0 ∨ i < r ∧ c = 0) ∧ e = faultE 26 i) ∨
     (i < r ∧ c ≠ 0 ∧ kindOf c = 0 ∧ e = faultE 22 i))
set_option maxHeartbeats 4000000 in
theorem kind_any {g : Nat} {K : Byt} {i r : Nat} {dp : Int} (w : World) (h : Cur w g K i r dp) (hr : r < K.bs.length) (hC : Codes w) : Calls Tryd.prog 61 #[.pointer (some ⟨g, 0, none⟩)] w (KindTo g K i r dp w) := by
  have HC := Lib.hid h
  have HCo := Lib.hid hC
  have h1 := h.le
  have h2 := h.room
  have h3 := h.far
  have h4 := h.cap
  obtain ⟨c0, c1, c2, -⟩ := h.cells0
  obtain ⟨x, hx⟩ : ∃ x, K.bs[i]? = some x := ⟨_, List.getElem?_eq_getElem (by omega)⟩
  obtain ⟨b, o, ha, hcx⟩ := h.inb i x hx
  rw [ha] at c0
  obtain ⟨x0, x1⟩ := h.byte x (List.mem_of_getElem? hx)
  have HX := Lib.hid hx
  clear h hC hx ha
  by_cases hir : i = r
  · have hb : ((i : Int) == (r : Int)) = true := by rw [beq_iff_eq]; omega
    have HIR := Lib.hid hir
    clear hir
    by_cases hz : x = 0
    · have hzb : (x == 0) = true := by simpa using hz
      go_enter Tryd.func61, Tryd.ntmps61
      go_wp2_with fail
      go_region
      go_wp2_with fail
      go_ret
      exact ⟨x, HX.out, (Only.refl _ _).drew, .inl ⟨HIR.out, hz, rfl, HC.out.drew⟩⟩
    · have hzb : (x == 0) = false := by simpa using hz
      go_enter Tryd.func61, Tryd.ntmps61
      go_wp2_with fail
      go_region
      go_wp2_with (go_at_call 74; refine (stop_any _ _ _).mono ?_; rintro e w1 ⟨rfl, rfl⟩; dsimp only [faultE])
      try simp only [Exit.inBlock, Exit.then]
      exact ⟨rfl, x, HX.out, (Only.refl _ _).drew, .inr (.inr (.inl ⟨.inl ⟨HIR.out, hz⟩, rfl⟩))⟩
  · have hb : ((i : Int) == (r : Int)) = false := by rw [beq_eq_false_iff_ne]; omega
    have hlt : i < r := by omega
    have HIR := Lib.hid hlt
    clear hir hlt
    by_cases hz : x = 0
    · have hzb : (x == 0) = true := by simpa using hz
      go_enter Tryd.func61, Tryd.ntmps61
      go_wp2_with fail
      go_region
      go_wp2_with (go_at_call 74; refine (stop_any _ _ _).mono ?_; rintro e w1 ⟨rfl, rfl⟩; dsimp only [faultE])
      try simp only [Exit.inBlock, Exit.then]
      exact ⟨rfl, x, HX.out, (Only.refl _ _).drew, .inr (.inr (.inl ⟨.inr ⟨HIR.out, hz⟩, rfl⟩))⟩
    · have hzb : (x == 0) = false := by simpa using hz
      by_cases hk : kindOf x = 0
      · have hkb : (kindOf x == 0) = true := by simpa using hk
        go_enter Tryd.func61, Tryd.ntmps61
        go_wp2_with fail
        go_region
        go_wp2_with (first
          | (go_at_call 76; refine (kindOf_any _ _ HCo.out.drew).mono ?_; rintro e w1 ⟨rfl, rfl⟩)
          | (go_at_call 74; refine (stop_any _ _ _).mono ?_; rintro e w1 ⟨rfl, rfl⟩; dsimp only [faultE]))
        try simp only [Exit.inBlock, Exit.then]
        exact ⟨rfl, x, HX.out, (Only.refl _ _).drew, .inr (.inr (.inr ⟨HIR.out, hz, hk, rfl⟩))⟩
      · have hkb : (kindOf x == 0) = false := by simpa using hk
        have hfr := rowf HC.out.row
        have hi9 : (i : Int) + 1 ≤ 9223372036854775807 := by omega
        go_enter Tryd.func61, Tryd.ntmps61
        go_wp2_with fail
        go_region
        go_wp2_with (first
          | (go_at_call 76; refine (kindOf_any _ _ HCo.out.drew).mono ?_; rintro e w1 ⟨rfl, rfl⟩)
          | (go_at_call 74; refine (stop_any _ _ _).mono ?_; rintro e w1 ⟨rfl, rfl⟩; dsimp only [faultE]))
        go_ret
        exact ⟨x, HX.out, (Only.refl _ _).drew.setCell (p := ⟨g, 1, none⟩) (.inl (by simp)) _, .inr (.inl ⟨HIR.out, hz, hk, rfl, HC.out.drew.at_ (j := i + 1) HIR.out⟩)⟩
end Go.Proofs.YtjfgmcmnpekahaaDoor
namespace Go.Proofs.YtjfgmcmnpekahaaDoor
open Go.RowKit
set_option maxRecDepth 100000

theorem toZ_index : ∀ {xs : List Int}, isB xs → (toZ xs = none ∧ Lib.indexByte (Lib.bytesOf xs) 0 = -1) ∨ ∃ l, toZ xs = some l ∧ Lib.indexByte (Lib.bytesOf xs) 0 = (l.length : Int) := by
  intro xs
  induction xs with
  | nil => intro _; exact .inl ⟨rfl, rfl⟩
  | cons b r ih =>
    intro h
    have hb := h b (by simp)
    have e : Lib.bytesOf (b :: r) = b.toNat.toUInt8 :: Lib.bytesOf r := rfl
    rw [toZ, e, Lib.indexByte]
    by_cases h0 : b = 0
    · subst h0
      exact .inr ⟨[], rfl, rfl⟩
    · have hne : (b.toNat.toUInt8 == 0) = false := by
        rw [beq_eq_false_iff_ne]
        intro e
        have := congrArg UInt8.toNat e
        simp at this
        omega
      rw [if_neg h0, hne, if_neg (by decide)]
      rcases ih fun x hx => h x (by simp [hx]) with ⟨h1, h2⟩ | ⟨l, h1, h2⟩
      · left
        rw [h1, h2]
        exact ⟨rfl, rfl⟩
      · right
        refine ⟨b :: l, by rw [h1]; rfl, ?_⟩
        have hq : (Lib.indexByte (Lib.bytesOf r) 0 == -1) = false := by rw [h2, beq_eq_false_iff_ne]; omega
        rw [hq, h2, if_neg (by decide)]
        simp
def ZeroTo (g : Nat) (K : Byt) (i r : Nat) (dp : Int) (w : World) (e : Ending) (w' : World) : Prop :=
  Only [g] w w' ∧ ((toZ (K.rest i r) = none ∧ e = .returned (.tuple #[.string ⟨#[]⟩, .bool false])) ∨
    ∃ l, toZ (K.rest i r) = some l ∧ e = .returned (.tuple #[.string (strOfNums l), .bool true]) ∧ Cur w' g K (i + l.length + 1) r dp)
set_option maxHeartbeats 4000000 in
theorem upToZero_any {g : Nat} {K : Byt} {i r : Nat} {dp : Int} (w : World) (h : Cur w g K i r dp) (hr : r < K.bs.length) : Calls Tryd.prog 77 #[.pointer (some ⟨g, 0, none⟩)] w (ZeroTo g K i r dp w) := by
  have HC := Lib.hid h
  have h1 := h.le
  have h2 := h.room
  have h3 := h.far
  have h4 := h.cap
  obtain ⟨c0, c1, c2, -⟩ := h.cells0
  obtain ⟨b, o, ha, -⟩ := h.inb i _ (List.getElem?_eq_getElem (by omega))
  rw [ha] at c0
  have HA := Lib.hid ha
  have HI := Lib.hid (fun W (hW : Cur W g K i r dp) => Any.bytes_IndexByte Tryd.laysIndexBytes b (o + i) (r - i) (K.c - i) (K.rest i r) 0 W h.len (fun k hk => by
    have hx : (K.rest i r)[k]? = some ((K.rest i r).getD k 0) := by rw [List.getD_eq_getElem?_getD, List.getElem?_eq_getElem (by rw [h.len]; exact hk)]; rfl
    obtain ⟨b', o', e, hc⟩ := hW.slice HA.out (j := i) (s := r) h2 k _ hx
    injection e with e
    injection e with e1 e2
    subst e1 e2
    exact hc))
  have HZ := Lib.hid (toZ_index h.restB)
  have hcap : ¬ K.c = i := by omega
  have hrc : r ≤ K.c := by omega
  clear h ha
  go_enter Tryd.func77, Tryd.ntmps77
  go_wp2_with fail
  go_still_tail 13, (by kernel_rfl)
  change wpList _ _ _ _ _ w.drew
  go_wp2_with fail
  refine (HI.out w.drew HC.out.drew).mono ?_
  rintro e w5 ⟨rfl, rfl⟩
  rw [show (0 : Int).toNat.toUInt8 = 0 from rfl]
  rcases HZ.out with ⟨z1, z2⟩ | ⟨l, z1, z2⟩
  · rw [z2]
    have Z1 := Lib.hid z1
    clear z1 z2
    go_wp2_with fail
    all_goals (try simp only [Exit.inBlock, Exit.then])
    refine bodyPost_ret (v := .tuple #[.string ⟨#[]⟩, .bool false]) (by simp [results, Tryd.results77, go_sem]) rfl ?_
    exact ⟨(Only.refl _ _).drew, .inl ⟨Z1.out, rfl⟩⟩
  · rw [z2]
    obtain ⟨y1, y2, y3⟩ := toZ_some z1
    rw [HC.out.len] at y3
    have ht : (K.rest i r).take l.length = l := by rw [y1, List.take_left]
    have Z1 := Lib.hid z1
    have HT := Lib.hid ht
    have HK := Lib.hid (fun W (hW : Cur W g K i r dp) => take_any (many := l.length) W hW (by omega))
    have hl0 : ¬ ((l.length : Int) < 0) := by omega
    clear z1 z2 y1 y2 ht c0 c1 c2
    go_wp2_with fail
    refine (HK.out _ HC.out.drew).mono ?_
    rintro e w6 (⟨hlt, -⟩ | ⟨-, rfl, hc6, ho6⟩)
    · omega
    · rw [HT.out]
      have HC6 := Lib.hid hc6
      have HO6 := Lib.hid ho6
      have d1 := hc6.cells0.2.1
      have hfr := rowf hc6.row
      clear hc6 ho6
      go_wp2_with fail
      all_goals (try simp only [Exit.inBlock, Exit.then])
      refine bodyPost_ret (v := .tuple #[.string (strOfNums l), .bool true]) (by simp [results, Tryd.results77, go_sem]) rfl ?_
      exact ⟨((Only.refl [g] w).drew.trans (HO6.out)).setCell (p := ⟨g, 1, none⟩) (.inl (by simp)) _, .inr ⟨l, Z1.out, rfl, HC6.out.at_ (j := i + l.length + 1) (by omega)⟩⟩
theorem Cur.put2 {w : World} {g : Nat} {K : Byt} {i r : Nat} {dp : Int} (h : Cur w g K i r dp) {s : Nat} {dp' : Int} (hs : i ≤ s) (hk : s ≤ K.bs.length) : Cur ((w.setCell ⟨g, 3, none⟩ (.int .i64 dp')).setCell ⟨g, 2, none⟩ (.int .i64 s)) g K i s dp' := by
  refine h.keep (((Only.refl [g] w).setCell (p := ⟨g, 3, none⟩) (.inl (by simp)) _).setCell (p := ⟨g, 2, none⟩) (.inl (by simp)) _) ?_ hs hk
  rw [heap_setCell_same _ g 2 _ _ _ (heap_setCell_same _ g 3 _ _ _ h.row)]
  rfl
/-- A document's or list's first bytes. -/
def OpenTo (g : Nat) (K : Byt) (i r : Nat) (dp : Int) (w : World) (e : Ending) (w' : World) : Prop :=
  Only [g] w w' ∧ ((dp = 20 ∧ e = faultE 25 i) ∨ (dp ≠ 20 ∧ r - i < 4 ∧ e = faultE 20 i) ∨
    (dp ≠ 20 ∧ 4 ≤ r - i ∧ (num ((K.rest i r).take 4) < 5 ∨ 65536 < num ((K.rest i r).take 4)) ∧ e = faultE 21 i) ∨
    (dp ≠ 20 ∧ 4 ≤ r - i ∧ ¬ (num ((K.rest i r).take 4) < 5 ∨ 65536 < num ((K.rest i r).take 4)) ∧ ((r - i : Nat) : Int) < num ((K.rest i r).take 4) ∧ e = faultE 20 i) ∨
    (dp ≠ 20 ∧ ∃ N : Nat, num ((K.rest i r).take 4) = N ∧ 5 ≤ N ∧ N ≤ 65536 ∧ N ≤ r - i ∧ e = .returned (.int .i64 r) ∧ Cur w' g K (i + 4) (i + N - 1) (dp + 1)))
set_option maxHeartbeats 4000000 in
theorem open_any {g : Nat} {K : Byt} {i r : Nat} {dp : Int} (w : World) (h : Cur w g K i r dp) (hd0 : 0 ≤ dp) (hd1 : dp ≤ 20) : Calls Tryd.prog 60 #[.pointer (some ⟨g, 0, none⟩)] w (OpenTo g K i r dp w) := by
  have HC := Lib.hid h
  have h1 := h.le
  have h2 := h.room
  have h3 := h.far
  obtain ⟨c0, c1, c2, c3⟩ := h.cells0
  have HN := Lib.hid (fun W (hW : Cur W g K i r dp) => number_any2 4 (by omega) (by omega) W hW)
  clear h c0
  by_cases hd : dp = 20
  · have hdb : (dp == 20) = true := by simpa using hd
    have HD := Lib.hid hd
    clear hd
    go_enter Tryd.func60, Tryd.ntmps60
    go_wp2_with fail
    go_region
    go_wp2_with (go_at_call 74; refine (stop_any _ _ _).mono ?_; rintro e w1 ⟨rfl, rfl⟩; dsimp only [faultE])
    try simp only [Exit.inBlock, Exit.then]
    exact ⟨rfl, (Only.refl _ _).drew, .inl ⟨HD.out, rfl⟩⟩
  · have hdb : (dp == 20) = false := by simpa using hd
    go_enter Tryd.func60, Tryd.ntmps60
    go_wp2_with fail
    go_region
    go_wp2_with fail
    refine (HN.out _ HC.out.drew).mono ?_
    rintro e w1 (⟨hlt, rfl, ho⟩ | ⟨hge, rfl, hc, ho⟩)
    · dsimp only [faultE]
      go_wp2_with fail
      try simp only [Exit.inBlock, Exit.then]
      exact ⟨rfl, (Only.refl _ _).drew.trans ho, .inr (.inl ⟨hd, hlt, rfl⟩)⟩
    · have hR := HC.out.restB
      have hnr := num_range (isB_take hR 4)
      have hl4 : ((K.rest i r).take 4).length = 4 := by rw [List.length_take, HC.out.len]; omega
      rw [hl4] at hnr
      obtain ⟨N, hN⟩ : ∃ N : Nat, num ((K.rest i r).take 4) = N := ⟨(num ((K.rest i r).take 4)).toNat, by omega⟩
      have hN4 : (N : Int) < 4294967296 := by rw [← hN]; have := hnr.2; simpa using this
      have hw : wrap64 (num ((K.rest i r).take 4)) = N := by rw [hN]; unfold wrap64; omega
      rw [hw]
      have HNN := Lib.hid hN
      have HC1 := Lib.hid hc
      have HO1 := Lib.hid ho
      have d := hc.cells0
      obtain ⟨d0, d1, d2, d3⟩ := d
      have hfr := rowf hc.row
      clear hR hnr hl4 hN hw hc ho d0 c1 c2 c3
      by_cases hr1 : (N : Int) < 5 ∨ (65536 : Int) < N
      · have hstop : (decide ((N : Int) < 5) || decide ((65536 : Int) < N)) = true := by simpa using hr1
        have HR1 := Lib.hid hr1
        by_cases hr5 : (N : Int) < 5
        all_goals
          clear hr1
          go_wp2_with (go_at_call 74; refine (stop_any _ _ _).mono ?_; rintro e w1 ⟨rfl, rfl⟩; dsimp only [faultE])
          all_goals (try simp only [Exit.inBlock, Exit.then])
          all_goals exact ⟨rfl, (Only.refl _ _).drew.trans HO1.out, .inr (.inr (.inl ⟨hd, hge, by rw [HNN.out]; exact HR1.out, rfl⟩))⟩
      · have hr5 : ¬ (N : Int) < 5 := fun h => hr1 (.inl h)
        have hr6 : ¬ (65536 : Int) < N := fun h => hr1 (.inr h)
        have HR1 := Lib.hid hr1
        have HGE := Lib.hid hge
        have HD := Lib.hid hd
        have HB := Lib.hid (And.intro hd0 hd1)
        have hd9 : dp + 1 ≤ 9223372036854775807 := by omega
        have hd8 : -9223372036854775808 ≤ dp + 1 := by omega
        clear hr1 hge hN4 hd
        by_cases hlt : ((r - i : Nat) : Int) < N
        · have hlt2 : (r : Int) - i < N := by omega
          have HLT := Lib.hid hlt
          clear hlt
          go_wp2_with (go_at_call 74; refine (stop_any _ _ _).mono ?_; rintro e w1 ⟨rfl, rfl⟩; dsimp only [faultE])
          all_goals (try simp only [Exit.inBlock, Exit.then])
          all_goals exact ⟨rfl, (Only.refl _ _).drew.trans HO1.out, .inr (.inr (.inr (.inl ⟨HD.out, HGE.out, by rw [HNN.out]; exact HR1.out, by rw [HNN.out]; exact HLT.out, rfl⟩)))⟩
        · have hlt2 : ¬ (r : Int) - i < N := by omega
          have HNR := Lib.hid (show N ≤ r - i by omega)
          clear hlt
          go_wp2_with (go_at_call 74; refine (stop_any _ _ _).mono ?_; rintro e w1 ⟨rfl, rfl⟩; dsimp only [faultE])
          go_ret
          have hn := HNR.out
          have hs : ((i + N - 1 : Nat) : Int) = (i : Int) + N - 1 := by omega
          have hp := HC1.out.put2 (dp' := dp + 1) (s := i + N - 1) (by omega) (by omega)
          rw [hs] at hp
          exact ⟨((((Only.refl [g] w).drew.trans HO1.out).setCell (p := ⟨g, 3, none⟩) (.inl (by simp)) _).setCell (p := ⟨g, 2, none⟩) (.inl (by simp)) _), .inr (.inr (.inr (.inr ⟨HD.out, N, HNN.out, by omega, by omega, hn, rfl, hp⟩)))⟩
set_option maxHeartbeats 2000000 in
theorem leave_any {g : Nat} {K : Byt} {i r : Nat} {dp : Int} (outer : Nat) (w : World) (h : Cur w g K i r dp) (hi : i < outer) (ho : outer ≤ K.bs.length) (hd0 : -100 ≤ dp) (hd1 : dp ≤ 100) : Calls Tryd.prog 64 #[.pointer (some ⟨g, 0, none⟩), .int .i64 outer] w fun e w' => e = .returned (.tuple #[]) ∧ Cur w' g K (i + 1) outer (dp - 1) ∧ Only [g] w w' := by
  have HC := Lib.hid h
  have h3 := h.far
  obtain ⟨c0, c1, c2, c3⟩ := h.cells0
  have hfr := rowf h.row
  clear h c0
  go_enter Tryd.func64, Tryd.ntmps64
  go_wp2_with fail
  go_end0
  have o3 : Only [g] w (((w.setCell ⟨g, 3, none⟩ (.int .i64 (dp - 1))).setCell ⟨g, 2, none⟩ (.int .i64 outer)).setCell ⟨g, 1, none⟩ (.int .i64 ((i : Int) + 1))) :=
    (((Only.refl [g] w).setCell (p := ⟨g, 3, none⟩) (.inl (by simp)) _).setCell (p := ⟨g, 2, none⟩) (.inl (by simp)) _).setCell (p := ⟨g, 1, none⟩) (.inl (by simp)) _
  refine ⟨rfl, HC.out.keep o3 ?_ hi ho, o3⟩
  rw [heap_setCell_same _ g 1 _ _ _ (heap_setCell_same _ g 2 _ _ _ (heap_setCell_same _ g 3 _ _ _ HC.out.row))]
  rfl
end Go.Proofs.YtjfgmcmnpekahaaDoor
namespace Go.Proofs.YtjfgmcmnpekahaaDoor
open Go.RowKit
set_option maxRecDepth 100000

def powName : String := "internal/strconv.uint64pow10"
/-- The tables that the program reads lie in blocks below B. -/
structure Env2 (w : World) (B : Nat) : Prop where
  tabs : Tabs w
  codes : Codes w
  pow : Lib.TabIs Tryd.prog w powName .u64 Lib.pow10Tab
  low : ∀ b, b = 0 ∨ b = Tryd.laysValid_ren.g 3 ∨ b = Tryd.laysValid_ren.g 4 ∨ Tryd.prog.globalNamed powName = some b → b < B
theorem cell_only {w w' : World} {S : List Nat} {B : Nat} (ho : Only S w w') (hS : ∀ b ∈ S, B ≤ b) {a : Addr} (ha : a.block < B) {v : Value} (h : w.cell? a = some v) : w'.cell? a = some v :=
  (World.cell?_of_block (ho.block a.block (cell_lt h) fun hb => by have := hS _ hb; omega)).trans h
theorem Env2.only {w w' : World} {B : Nat} {S : List Nat} (h : Env2 w B) (ho : Only S w w') (hS : ∀ b ∈ S, B ≤ b) : Env2 w' B := by
  refine ⟨⟨fun c hc => cell_only ho hS (h.low _ (.inr (.inl rfl))) (h.tabs.1 c hc), fun i hi => ⟨cell_only ho hS (h.low _ (.inr (.inr (.inl rfl)))) (h.tabs.2 i hi).1, cell_only ho hS (h.low _ (.inr (.inr (.inl rfl)))) (h.tabs.2 i hi).2⟩⟩, fun k x hx => cell_only ho hS (h.low _ (.inl rfl)) (h.codes k x hx), ?_, h.low⟩
  have hp := h.pow
  unfold Lib.TabIs World.var? at hp ⊢
  cases hg : Tryd.prog.globalNamed powName with
  | none => rw [hg] at hp; cases hp
  | some g =>
    rw [hg] at hp
    simp only [Option.bind_some] at hp ⊢
    have hlt : g < w.heap.size := by
      rcases Nat.lt_or_ge g w.heap.size with h' | h'
      · exact h'
      · rw [Array.getElem?_eq_none h'] at hp; simp at hp
    rw [ho.block g hlt fun hb => by have := hS _ hb; have := h.low g (.inr (.inr (.inr hg))); omega]
    exact hp
theorem Env2.then_ {w w' : World} {B : Nat} (h : Env2 w B) (hb : Below w.heap.size w w') : Env2 w' B := h.only (Only.of_below (S := []) hb) (by simp)
theorem Env2.drew {w : World} {B : Nat} (h : Env2 w B) : Env2 w.drew B := h.then_ (Below.refl _ _).drew
theorem grow_below (w : World) (k : Nat) (os : Array Obj) : Below w.heap.size w (Sort.grow (w.drewN k) os) :=
  ⟨rfl, rfl, rfl, by simp [Sort.grow, World.drewN], fun i hi => by
    show (w.heap ++ os)[i]? = w.heap[i]?
    rw [Array.getElem?_append_left hi]⟩
theorem itoa_any {w : World} {B : Nat} (h : Env2 w B) (n : Nat) (hn : n ≤ 140737488355328) : Calls Tryd.prog 41 #[.int .i64 n] w fun e w' => e = .returned (.string (itoaB n)) ∧ Below w.heap.size w w' :=
  (Any.strconv_Itoa Tryd.laysItoa n (by omega) (by omega) w h.pow).mono fun e w' ⟨he, k, os, hw⟩ => ⟨he, by subst hw; exact grow_below _ _ _⟩
theorem str_size {l : List Int} (h : isB l) : (strOfNums l).size = l.length := by rw [← bsI_len, bsI_nums h]
theorem toZ_byte {R l : List Int} (hB : isB R) (h : toZ R = some l) : isB l := by
  obtain ⟨h1, -, -⟩ := toZ_some h
  intro b hb
  exact hB b (by rw [h1]; simp [hb])
/-- A name without a byte 0 may be, if it is there, not too long, and UTF-8. -/
theorem name_ok {R l : List Int} (hB : isB R) (h : toZ R = some l) : nameOk (strOfNums l) = (!((strOfNums l).toList == []) && (decide ((strOfNums l).size ≤ 100) && Lib.validD (strOfNums l).data.toList)) := by
  have hl := toZ_byte hB h
  obtain ⟨-, h2, -⟩ := toZ_some h
  have hno : Lib.indexByte (strOfNums l).data.toList 0 = -1 := by
    have e : (strOfNums l).data.toList = Lib.bytesOf l := rfl
    rw [e]
    have hz : toZ l = none := by
      cases hz : toZ l with
      | none => rfl
      | some l' =>
        obtain ⟨a1, -, -⟩ := toZ_some hz
        exact absurd rfl (h2 0 (by rw [a1]; simp))
    rcases toZ_index hl with ⟨-, h3⟩ | ⟨l', h3, -⟩
    · exact h3
    · rw [hz] at h3; cases h3
  unfold nameOk
  rw [hno]
  simp
def NameTo (list : Bool) (ahead : List (ByteArray × V)) (g : Nat) (K : Byt) (i r : Nat) (dp : Int) (w : World) (ret : ByteArray → Value) (e : Ending) (w' : World) : Prop :=
  Only [g] w w' ∧ ((toZ (K.rest i r) = none ∧ e = faultE 23 i) ∨
    ∃ l, toZ (K.rest i r) = some l ∧ ((mayName list ahead (strOfNums l) = false ∧ e = faultE 23 i) ∨
      (mayName list ahead (strOfNums l) = true ∧ e = .returned (ret (strOfNums l)) ∧ Cur w' g K (i + l.length + 1) r dp)))
theorem nil_size (s : ByteArray) : (s.toList == []) = (s.size == 0) := by
  rw [Lib.toList_data, Bool.eq_iff_iff]
  rw [show s.size = s.data.toList.length by rfl]
  cases s.data.toList <;> simp
theorem map_only {w w' : World} {k : TypeId} {R : Value → Option (DataW Unit × List MemPlace)} {b n : Nat} {D : DataW Unit} {S : List Nat} (h : w.ownsMap Tryd.prog k R b n D) (ho : Only S w w') (hb : b ∉ S) : w'.ownsMap Tryd.prog k R b n D := by
  have hlt := h.lt
  obtain ⟨es, clock, hb', F, hs, hD⟩ := h
  exact ⟨es, clock, (ho.block b hlt hb).trans hb', F, hs, hD⟩
set_option maxHeartbeats 4000000 in
theorem newName_any {g : Nat} {K : Byt} {i r : Nat} {dp : Int} (ts : List (ByteArray × T)) (gm n : Nat) (w : World) (h : Cur w g K i r dp) (hr : r < K.bs.length) (hm : w.ownsMap Tryd.prog 9 unitElem gm n (seen ts ts.length)) (hgm : gm ≠ g) {B : Nat} (hE : Env2 w B) (hgB : B ≤ g) :
    Calls Tryd.prog 62 #[.pointer (some ⟨g, 0, none⟩), .map (some gm)] w (NameTo false (ts.map fun f => (f.1, f.2.val)) g K i r dp w (fun s => .string s)) := by
  have HC := Lib.hid h
  have HM := Lib.hid hm
  have HE := Lib.hid hE
  have HGB := Lib.hid hgB
  have h1 := h.le
  have h2 := h.room
  have h3 := h.far
  obtain ⟨c0, c1, c2, c3⟩ := h.cells0
  have HZ := Lib.hid (upToZero_any w h hr)
  have HB := Lib.hid h.restB
  clear h hm hE hgB c0 c2 c3
  go_enter Tryd.func62, Tryd.ntmps62
  go_wp2_with fail
  refine HZ.out.mono ?_
  rintro e w1 ⟨ho, ⟨hz, rfl⟩ | ⟨l, hz, rfl, hc⟩⟩
  · have hm1 : w1.ownsMap Tryd.prog 9 unitElem gm n (seen ts ts.length) := map_only HM.out ho (by simpa using hgm)
    have hkey : keyOf Tryd.prog 9 (.string ⟨#[]⟩) = some (.string []) := WideMaps.keyOf_string_mk Tryd.underlying9 (by unfold maxLen; decide)
    have HZ1 := Lib.hid hz
    have HO := Lib.hid ho
    clear hz ho
    cases hhas : Maps.has (seen ts ts.length) (.string [])
    all_goals
      go_wp2_with (first
        | (at_lookup; refine wpList_lookup_own_unit _ rfl _ _ 87 rfl 9 89 law_string Tryd.underlying87 (zero_unit _) gm n _ rfl hm1 _ _ rfl hkey ?_)
        | (go_at_call 74; refine (stop_any _ _ _).mono ?_; rintro e w1 ⟨rfl, rfl⟩; dsimp only [faultE]))
      all_goals (try simp only [Exit.inBlock, Exit.then])
      all_goals exact ⟨rfl, HO.out.trans (Only.of_below (below1 _ _)), .inl ⟨HZ1.out, rfl⟩⟩
  · have hm1 : w1.ownsMap Tryd.prog 9 unitElem gm n (seen ts ts.length) := map_only HM.out ho (by simpa using hgm)
    have hlB := toZ_byte HB.out hz
    have hn := name_ok HB.out hz
    obtain ⟨-, -, z3⟩ := toZ_some hz
    rw [HC.out.len] at z3
    have hsz : (strOfNums l).size ≤ 140737488355328 := by rw [str_size hlB]; omega
    have hkey : keyOf Tryd.prog 9 (.string (strOfNums l)) = some (.string (strOfNums l).data.toList) := WideMaps.keyOf_string_mk Tryd.underlying9 (by unfold maxLen; omega)
    have hmay : mayName false (ts.map fun f => (f.1, f.2.val)) (strOfNums l) = (nameOk (strOfNums l) && !Maps.has (seen ts ts.length) (.string (strOfNums l).data.toList)) := by
      rw [has_seen, List.take_length]
      unfold mayName
      simp only [Bool.false_eq_true, if_false, List.map_map]
      rfl
    have HZ1 := Lib.hid hz
    have HO := Lib.hid ho
    have HC1 := Lib.hid hc
    have HV := Lib.hid (fun W => valid_any (strOfNums l) W (by omega))
    have HTT := Lib.hid (HE.out.only ho (by have := HGB.out; simpa using this))
    rw [hn] at hmay
    have HMAY := Lib.hid hmay
    clear hz ho hc hlB hn z3 hmay
    generalize hsl : strOfNums l = s at *
    have HSL := Lib.hid hsl
    clear hsl
    cases hhas : Maps.has (seen ts ts.length) (.string s.data.toList) with
    | true =>
      have HF := Lib.hid (show mayName false (ts.map fun f => (f.1, f.2.val)) s = false by rw [HMAY.out, hhas]; simp)
      go_wp2_with (first
        | (at_lookup; refine wpList_lookup_own_unit _ rfl _ _ 87 rfl 9 89 law_string Tryd.underlying87 (zero_unit _) gm n _ rfl hm1 _ _ rfl hkey ?_)
        | (go_at_call 74; refine (stop_any _ _ _).mono ?_; rintro e w1 ⟨rfl, rfl⟩; dsimp only [faultE]))
      all_goals (try simp only [Exit.inBlock, Exit.then])
      all_goals exact ⟨rfl, HO.out.trans (Only.of_below (below1 _ _)), .inr ⟨l, HZ1.out, .inl ⟨by rw [HSL.out]; exact HF.out, rfl⟩⟩⟩
    | false =>
      have e0 := nil_size s
      by_cases he : (s.toList == []) = true
      · have HF := Lib.hid (show mayName false (ts.map fun f => (f.1, f.2.val)) s = false by rw [HMAY.out, hhas, he]; rfl)
        have hE2 : s.toList = [] := by simpa using he
        clear he e0
        go_wp2_with (first
          | (at_lookup; refine wpList_lookup_own_unit _ rfl _ _ 87 rfl 9 89 law_string Tryd.underlying87 (zero_unit _) gm n _ rfl hm1 _ _ rfl hkey ?_)
            | (go_at_call 74; refine (stop_any _ _ _).mono ?_; rintro e w4 ⟨rfl, rfl⟩; dsimp only [faultE]))
        all_goals (try simp only [Exit.inBlock, Exit.then])
        all_goals exact ⟨rfl, HO.out.trans (Only.of_below (below1 _ _)), .inr ⟨l, HZ1.out, .inl ⟨by rw [HSL.out]; exact HF.out, rfl⟩⟩⟩
      · have he' : (s.toList == []) = false := by simpa using he
        have hE3 : ¬ s.toList = [] := by simpa using he'
        by_cases h100 : (100 : Int) < (s.size : Int)
        · have HF := Lib.hid (show mayName false (ts.map fun f => (f.1, f.2.val)) s = false by rw [HMAY.out, hhas, he', decide_eq_false (by omega)]; rfl)
          have hd100 : decide ((100 : Int) < (s.size : Int)) = true := decide_eq_true h100
          clear he he' e0
          go_wp2_with (first
            | (at_lookup; refine wpList_lookup_own_unit _ rfl _ _ 87 rfl 9 89 law_string Tryd.underlying87 (zero_unit _) gm n _ rfl hm1 _ _ rfl hkey ?_)
              | (go_at_call 74; refine (stop_any _ _ _).mono ?_; rintro e w4 ⟨rfl, rfl⟩; dsimp only [faultE]))
          all_goals (try simp only [Exit.inBlock, Exit.then])
          all_goals exact ⟨rfl, HO.out.trans (Only.of_below (below1 _ _)), .inr ⟨l, HZ1.out, .inl ⟨by rw [HSL.out]; exact HF.out, rfl⟩⟩⟩
        · have hd100 : decide ((100 : Int) < (s.size : Int)) = false := decide_eq_false h100
          cases hv : Lib.validD s.data.toList with
          | false =>
            have HF := Lib.hid (show mayName false (ts.map fun f => (f.1, f.2.val)) s = false by rw [HMAY.out, hhas, hv]; simp)
            clear he he' e0
            go_wp2_with (first
              | (at_lookup; refine wpList_lookup_own_unit _ rfl _ _ 87 rfl 9 89 law_string Tryd.underlying87 (zero_unit _) gm n _ rfl hm1 _ _ rfl hkey ?_)
              | (go_at_call 65; refine (HV.out _ (HTT.out.then_ (below1 _ _)).tabs).mono ?_; rintro e w3 ⟨rfl, b3⟩; rw [hv])
              | (go_at_call 74; refine (stop_any _ _ _).mono ?_; rintro e w4 ⟨rfl, rfl⟩; dsimp only [faultE]))
            all_goals (try simp only [Exit.inBlock, Exit.then])
            all_goals exact ⟨rfl, (HO.out.trans (Only.of_below (below1 _ _))).trans (Only.of_below b3), .inr ⟨l, HZ1.out, .inl ⟨by rw [HSL.out]; exact HF.out, rfl⟩⟩⟩
          | true =>
            have HF := Lib.hid (show mayName false (ts.map fun f => (f.1, f.2.val)) s = true by rw [HMAY.out, hhas, he', hv, decide_eq_true (by omega)]; rfl)
            have hE4 : s.toList.isEmpty = false := by cases hq : s.toList with | nil => exact absurd hq hE3 | cons x r => rfl
            clear he he' e0
            go_wp2_with (first
              | (at_lookup; refine wpList_lookup_own_unit _ rfl _ _ 87 rfl 9 89 law_string Tryd.underlying87 (zero_unit _) gm n _ rfl hm1 _ _ rfl hkey ?_)
              | (go_at_call 65; refine (HV.out _ (HTT.out.then_ (below1 _ _)).tabs).mono ?_; rintro e w3 ⟨rfl, b3⟩; rw [hv])
              | (go_at_call 74; refine (stop_any _ _ _).mono ?_; rintro e w4 ⟨rfl, rfl⟩; dsimp only [faultE]))
            go_ret
            exact ⟨(HO.out.trans (Only.of_below (below1 _ _))).trans (Only.of_below b3), .inr ⟨l, HZ1.out, .inr ⟨by rw [HSL.out]; exact HF.out, by rw [HSL.out]; rfl, (HC1.out.then_ (below1 _ _)).then_ b3⟩⟩⟩
set_option maxHeartbeats 4000000 in
theorem placeName_any {g : Nat} {K : Byt} {i r : Nat} {dp : Int} (ahead : List (ByteArray × V)) (w : World) (h : Cur w g K i r dp) (hr : r < K.bs.length) (hn : ahead.length ≤ 140737488355328) {B : Nat} (hE : Env2 w B) (hgB : B ≤ g) :
    Calls Tryd.prog 91 #[.pointer (some ⟨g, 0, none⟩), .int .i64 ahead.length] w (NameTo true ahead g K i r dp w (fun _ => .tuple #[])) := by
  have HC := Lib.hid h
  have HE := Lib.hid hE
  have HGB := Lib.hid hgB
  have h1 := h.le
  have h2 := h.room
  have h3 := h.far
  obtain ⟨c0, c1, c2, c3⟩ := h.cells0
  have HZ := Lib.hid (upToZero_any w h hr)
  clear h hE hgB c0 c2 c3
  go_enter Tryd.func91, Tryd.ntmps91
  go_wp2_with fail
  refine HZ.out.mono ?_
  rintro e w1 ⟨ho, ⟨hz, rfl⟩ | ⟨l, hz, rfl, hc⟩⟩
  · have HZ1 := Lib.hid hz
    have HO := Lib.hid ho
    clear hz ho
    go_wp2_with (first
      | (go_at_call 74; refine (stop_any _ _ _).mono ?_; rintro e w1 ⟨rfl, rfl⟩; dsimp only [faultE]))
    all_goals (try simp only [Exit.inBlock, Exit.then])
    all_goals exact ⟨rfl, HO.out, .inl ⟨HZ1.out, rfl⟩⟩
  · have HZ1 := Lib.hid hz
    have HO := Lib.hid ho
    have HC1 := Lib.hid hc
    have HI := Lib.hid (itoa_any (HE.out.only ho (by have := HGB.out; simpa using this)) ahead.length hn)
    have hmay : mayName true ahead (strOfNums l) = ((strOfNums l).toList == (itoaB ahead.length).toList) := by unfold mayName; rfl
    have HMAY := Lib.hid hmay
    clear hz ho hc hmay
    generalize hsl : strOfNums l = s at *
    have HSL := Lib.hid hsl
    clear hsl
    cases hv : (s.toList == (itoaB ahead.length).toList) with
    | false =>
      go_wp2_with (first
        | (go_at_call 41; refine HI.out.mono ?_; rintro e w3 ⟨rfl, b3⟩)
        | (go_at_call 74; refine (stop_any _ _ _).mono ?_; rintro e w4 ⟨rfl, rfl⟩; dsimp only [faultE]))
      all_goals (try simp only [Exit.inBlock, Exit.then])
      all_goals exact ⟨rfl, HO.out.trans (Only.of_below b3), .inr ⟨l, HZ1.out, .inl ⟨by rw [HSL.out, HMAY.out, hv], rfl⟩⟩⟩
    | true =>
      go_wp2_with (first
        | (go_at_call 41; refine HI.out.mono ?_; rintro e w3 ⟨rfl, b3⟩)
        | (go_at_call 74; refine (stop_any _ _ _).mono ?_; rintro e w4 ⟨rfl, rfl⟩; dsimp only [faultE]))
      go_end0
      exact ⟨HO.out.trans (Only.of_below b3), .inr ⟨l, HZ1.out, .inr ⟨by rw [HSL.out, HMAY.out, hv], rfl, HC1.out.then_ b3⟩⟩⟩
end Go.Proofs.YtjfgmcmnpekahaaDoor
namespace Go.Proofs.YtjfgmcmnpekahaaDoor
open Go.RowKit
set_option maxRecDepth 100000

/-- What a reading yields, or at which fault it stops. -/
def ReadsR {α : Type} (res : Res α) (ret : α → Value) (g : Nat) (K : Byt) (i r : Nat) (dp : Int) (w : World) (e : Ending) (w' : World) : Prop :=
  Only [g] w w' ∧ match res with
  | .bad c q => e = faultE c q
  | .ok a m => e = .returned (ret a) ∧ Cur w' g K (i + m) r dp
theorem ReadsR.bad {α : Type} {res : Res α} {ret : α → Value} {g : Nat} {K : Byt} {i r : Nat} {dp : Int} {w w' : World} {c q : Int} (h : res = .bad c q) (ho : Only [g] w w') : ReadsR res ret g K i r dp w (faultE c q) w' := by subst h; exact ⟨ho, rfl⟩
theorem ReadsR.ok {α : Type} {res : Res α} {ret : α → Value} {g : Nat} {K : Byt} {i r : Nat} {dp : Int} {w w' : World} {a : α} {m : Nat} {v : Value} (h : res = .ok a m) (hv : v = ret a) (hc : Cur w' g K (i + m) r dp) (ho : Only [g] w w') : ReadsR res ret g K i r dp w (.returned v) w' := by subst h hv; exact ⟨ho, rfl, hc⟩
def flagF (R : List Int) (p : Int) : Res Int := if R.length < 1 then .bad 20 p else if 1 < R.getD 0 0 then .bad 24 p else .ok (R.getD 0 0) 1
def textF (R : List Int) (p : Int) : Res ByteArray :=
  if R.length < 4 then .bad 20 p else
  if num (R.take 4) = 0 then .bad 21 p else
  if (R.length : Int) < 4 + num (R.take 4) then .bad 20 p else
  if R.getD (3 + (num (R.take 4)).toNat) 0 = 0 ∧ textOk (strOfNums ((R.drop 4).take ((num (R.take 4)).toNat - 1))) = true then
    .ok (strOfNums ((R.drop 4).take ((num (R.take 4)).toNat - 1))) (4 + (num (R.take 4)).toNat)
  else .bad 24 (p + 4)
def blobF (R : List Int) (p : Int) : Res ByteArray :=
  if R.length < 5 then .bad 20 p else
  if (R.length : Int) < 5 + num (R.take 4) then .bad 20 p else
  if R.getD 4 0 = 0 then .ok (strOfNums ((R.drop 5).take (num (R.take 4)).toNat)) (5 + (num (R.take 4)).toNat) else .bad 24 (p + 4)
theorem num_small {R : List Int} (hB : isB R) {k : Nat} (hk : k ≤ 4) (hl : k ≤ R.length) : ∃ N : Nat, num (R.take k) = N ∧ wrap64 (num (R.take k)) = N ∧ (N : Int) < 4294967296 := by
  have h := num_range (isB_take hB k)
  rw [List.length_take, Nat.min_eq_left hl] at h
  have hp : (256 : Int) ^ k ≤ 4294967296 := by
    obtain rfl | rfl | rfl | rfl | rfl : k = 0 ∨ k = 1 ∨ k = 2 ∨ k = 3 ∨ k = 4 := by omega
    all_goals decide
  refine ⟨(num (R.take k)).toNat, by omega, ?_, by omega⟩
  unfold wrap64
  omega
theorem num_one {R : List Int} (hl : 1 ≤ R.length) : num (R.take 1) = R.getD 0 0 := by
  cases R with
  | nil => simp at hl
  | cons x r => simp [num]
set_option maxHeartbeats 2000000 in
theorem flag_any {g : Nat} {K : Byt} {i r : Nat} {dp : Int} (w : World) (h : Cur w g K i r dp) : Calls Tryd.prog 82 #[.pointer (some ⟨g, 0, none⟩)] w (ReadsR (flagF (K.rest i r) i) (fun n => .int .i64 n) g K i r dp w) := by
  have HC := Lib.hid h
  obtain ⟨c0, c1, c2, c3⟩ := h.cells0
  have HN := Lib.hid (number_any2 1 (by omega) (by omega) w h)
  clear h c0 c2 c3
  go_enter Tryd.func82, Tryd.ntmps82
  go_wp2_with fail
  refine HN.out.mono ?_
  rintro e w1 (⟨hlt, rfl, ho⟩ | ⟨hge, rfl, hc, ho⟩)
  · dsimp only [faultE]
    go_wp2_with fail
    try simp only [Exit.inBlock, Exit.then]
    exact ⟨rfl, .bad (by rw [flagF, if_pos (by rw [HC.out.len]; omega)]) ho⟩
  · have hl : 1 ≤ (K.rest i r).length := by rw [HC.out.len]; omega
    obtain ⟨N, hN, hw, hN4⟩ := num_small HC.out.restB (k := 1) (by omega) hl
    rw [hw]
    rw [num_one hl] at hN
    have HNN := Lib.hid hN
    have HL := Lib.hid hl
    have HC1 := Lib.hid hc
    have HO := Lib.hid ho
    have HGE := Lib.hid hge
    clear hN hw hc ho hl hN4 hge c1
    by_cases h1 : (1 : Int) < (N : Int)
    · go_wp2_with (go_at_call 74; refine (stop_any _ _ _).mono ?_; rintro e w1 ⟨rfl, rfl⟩; dsimp only [faultE])
      all_goals (try simp only [Exit.inBlock, Exit.then])
      exact ⟨rfl, .bad (by rw [flagF, if_neg (by have := HL.out; omega), HNN.out, if_pos h1]) HO.out⟩
    · go_wp2_with (go_at_call 74; refine (stop_any _ _ _).mono ?_; rintro e w1 ⟨rfl, rfl⟩; dsimp only [faultE])
      go_ret
      exact .ok (a := (N : Int)) (m := 1) (by rw [flagF, if_neg (by have := HL.out; omega), HNN.out, if_neg (by omega)]) rfl HC1.out HO.out
set_option maxHeartbeats 4000000 in
theorem blob_any {g : Nat} {K : Byt} {i r : Nat} {dp : Int} (w : World) (h : Cur w g K i r dp) (hr : r < K.bs.length) : Calls Tryd.prog 80 #[.pointer (some ⟨g, 0, none⟩)] w (ReadsR (blobF (K.rest i r) i) (fun s => .string s) g K i r dp w) := by
  have HC := Lib.hid h
  have h1 := h.le
  have h2 := h.room
  have h3 := h.far
  obtain ⟨c0, c1, c2, c3⟩ := h.cells0
  have HN := Lib.hid (need_any 5 w h)
  clear h c0 c2 c3
  go_enter Tryd.func80, Tryd.ntmps80
  go_wp2_with fail
  refine HN.out.mono ?_
  rintro e w1 ⟨⟨hlt, rfl⟩ | ⟨hge, rfl⟩, b1⟩
  · dsimp only [faultE]
    go_wp2_with fail
    try simp only [Exit.inBlock, Exit.then]
    exact ⟨rfl, .bad (by rw [blobF, if_pos (by rw [HC.out.len]; omega)]) (Only.of_below b1)⟩
  · have hl : 5 ≤ (K.rest i r).length := by rw [HC.out.len]; omega
    have HC1 := Lib.hid (HC.out.then_ b1)
    have HO1 := Lib.hid (Only.of_below (S := [g]) b1)
    obtain ⟨N, hN, hw, hN4⟩ := num_small HC.out.restB (k := 4) (by omega) (by omega)
    obtain ⟨Z, hZ, hwz, hZ4⟩ := num_small (R := K.rest (i + 4) r) (isB_take (isB_dropn HC.out.byte _) _) (k := 1) (by omega) (by rw [← rest_drop, List.length_drop]; omega)
    have hZ0 : (K.rest i r).getD 4 0 = Z := by
      rw [num_one (by rw [← rest_drop, List.length_drop]; omega), ← rest_drop, List.getD_eq_getElem?_getD, List.getElem?_drop] at hZ
      rw [List.getD_eq_getElem?_getD]
      exact hZ
    have HNN := Lib.hid hN
    have HZ := Lib.hid hZ0
    have HL := Lib.hid hl
    have H2 := Lib.hid (number_any2 4 (by omega) (by omega) w1 HC1.out)
    have HW := Lib.hid hw
    have HWZ := Lib.hid hwz
    have HGE := Lib.hid hge
    clear b1 hN hw hZ hwz hZ0 hl hge c1 hN4 hZ4
    go_wp2_with fail
    refine H2.out.mono ?_
    rintro e w2 (⟨hlt, -⟩ | ⟨-, rfl, hc2, ho2⟩)
    · have := HGE.out; omega
    · rw [HW.out]
      have HC2 := Lib.hid hc2
      have HO2 := Lib.hid (HO1.out.trans ho2)
      have H3 := Lib.hid (number_any2 1 (by omega) (by omega) w2 hc2)
      clear hc2 ho2
      go_wp2_with fail
      refine H3.out.mono ?_
      rintro e w3 (⟨hlt, -⟩ | ⟨-, rfl, hc3, ho3⟩)
      · have := HGE.out; omega
      · rw [HWZ.out]
        have HC3 := Lib.hid hc3
        have HO3 := Lib.hid (HO2.out.trans ho3)
        obtain ⟨d0, d1, d2, d3⟩ := hc3.cells0
        have hle5 : i + 4 + 1 ≤ r := hc3.le
        clear hc3 ho3 d0 d3
        by_cases hlt : (r : Int) - (i + 4 + 1) < N
        · go_wp2_with fail
          go_region
          go_wp2_with (go_at_call 74; refine (stop_any _ _ _).mono ?_; rintro e w1 ⟨rfl, rfl⟩; dsimp only [faultE])
          all_goals (try simp only [Exit.inBlock, Exit.then])
          exact ⟨rfl, .bad (by rw [blobF, if_neg (by have := HL.out; omega), HNN.out, if_pos (by rw [HC.out.len]; omega)]) HO3.out.drew⟩
        · have HLT := Lib.hid hlt
          have HLT2 := Lib.hid (show N ≤ r - (i + 4 + 1) by omega)
          by_cases hz : (Z : Int) = 0
          · have hzb : ((Z : Int) != 0) = false := by simp [hz]
            have HT := Lib.hid (fun W (hW : Cur W g K (i + 4 + 1) r dp) => take_any (many := N) W hW (by omega))
            have HZ0 := Lib.hid hz
            clear hz
            go_wp2_with fail
            go_region
            go_wp2_with (go_at_call 74; refine (stop_any _ _ _).mono ?_; rintro e w1 ⟨rfl, rfl⟩; dsimp only [faultE])
            refine (HT.out _ HC3.out.drew).mono ?_
            rintro e w4 (⟨hlt4, -⟩ | ⟨-, rfl, hc4, ho4⟩)
            · have := HLT.out; omega
            · have HC4 := Lib.hid hc4
              have HO4 := Lib.hid (HO3.out.drew.trans ho4)
              clear hc4 ho4
              go_wp2_with fail
              go_ret
              refine .ok (a := strOfNums ((K.rest (i + 4 + 1) r).take N)) (m := 5 + N) ?_ rfl (by rw [show i + (5 + N) = i + 4 + 1 + N by omega]; exact HC4.out) HO4.out
              rw [blobF, if_neg (by have := HL.out; omega), HNN.out, if_neg (by rw [HC.out.len]; omega), HZ.out, if_pos HZ0.out, Int.toNat_natCast, rest_drop]
          · have hzb : ((Z : Int) != 0) = true := by simpa using hz
            have HZ0 := Lib.hid hz
            clear hz
            go_wp2_with fail
            go_region
            go_wp2_with (go_at_call 74; refine (stop_any _ _ _).mono ?_; rintro e w1 ⟨rfl, rfl⟩; dsimp only [faultE])
            all_goals (try simp only [Exit.inBlock, Exit.then])
            exact ⟨rfl, .bad (by rw [blobF, if_neg (by have := HL.out; omega), HNN.out, if_neg (by rw [HC.out.len]; omega), HZ.out, if_neg HZ0.out]) HO3.out.drew⟩
theorem str_get {l : List Int} (hB : isB l) {k : Nat} {x : Int} (hx : l[k]? = some x) : ∃ hk : k < (strOfNums l).size, (((strOfNums l)[k]'hk).toNat : Int) = x := by
  have hk := lt_of_get hx
  have hs : (strOfNums l).size = l.length := by rw [← bsI_len, bsI_nums hB]
  refine ⟨by omega, ?_⟩
  have h := Lib.data_getElem? (strOfNums l) k (by omega)
  have h2 : (bsI (strOfNums l))[k]? = some (((strOfNums l)[k]'(by omega)).toNat : Int) := by unfold bsI; rw [List.getElem?_map, h]; rfl
  rw [bsI_nums hB, hx] at h2
  injection h2 with h2
  exact h2.symm
theorem str_cut {l : List Int} (hB : isB l) {k : Nat} (hk : k ≤ l.length) : (strOfNums l).extract 0 k = strOfNums (l.take k) := by
  have h1 : bsI ((strOfNums l).extract 0 k) = l.take k := by
    have h0 := bsI_nums hB
    unfold bsI at h0 ⊢
    rw [Lib.extract_data, List.drop_zero, List.map_take, h0, Nat.sub_zero]
  have h2 := bsI_nums (isB_take hB k)
  rw [← nums_bsI ((strOfNums l).extract 0 k), h1]
set_option maxHeartbeats 4000000 in
theorem text_any {g : Nat} {K : Byt} {i r : Nat} {dp : Int} (w : World) (h : Cur w g K i r dp) (hr : r < K.bs.length) {B : Nat} (hE : Env2 w B) (hgB : B ≤ g) : Calls Tryd.prog 79 #[.pointer (some ⟨g, 0, none⟩)] w (ReadsR (textF (K.rest i r) i) (fun s => .string s) g K i r dp w) := by
  have HC := Lib.hid h
  have HE := Lib.hid hE
  have HGB := Lib.hid hgB
  have h1 := h.le
  have h2 := h.room
  have h3 := h.far
  obtain ⟨c0, c1, c2, c3⟩ := h.cells0
  have HN := Lib.hid (number_any2 4 (by omega) (by omega) w h)
  clear h hE hgB c0 c2 c3
  go_enter Tryd.func79, Tryd.ntmps79
  go_wp2_with fail
  refine HN.out.mono ?_
  rintro e w1 (⟨hlt, rfl, ho⟩ | ⟨hge, rfl, hc, ho⟩)
  · dsimp only [faultE]
    go_wp2_with fail
    try simp only [Exit.inBlock, Exit.then]
    exact ⟨rfl, .bad (by rw [textF, if_pos (by rw [HC.out.len]; omega)]) ho⟩
  · have hl : 4 ≤ (K.rest i r).length := by rw [HC.out.len]; omega
    obtain ⟨N, hN, hw, hN4⟩ := num_small HC.out.restB (k := 4) (by omega) hl
    rw [hw]
    have HNN := Lib.hid hN
    have HL := Lib.hid hl
    have HC1 := Lib.hid hc
    have HO := Lib.hid ho
    have HGE := Lib.hid hge
    have hle4 : i + 4 ≤ r := hc.le
    obtain ⟨d0, d1, d2, d3⟩ := hc.cells0
    clear hN hw hc ho hl hN4 hge c1 d0 d3
    by_cases hN0 : N = 0
    · have hNb : ((N : Int) == 0) = true := by rw [hN0]; rfl
      have HN0 := Lib.hid hN0
      clear hN0
      go_wp2_with (go_at_call 74; refine (stop_any _ _ _).mono ?_; rintro e w1 ⟨rfl, rfl⟩; dsimp only [faultE])
      all_goals (try simp only [Exit.inBlock, Exit.then])
      exact ⟨rfl, .bad (by rw [textF, if_neg (by have := HL.out; omega), HNN.out, if_pos (by rw [HN0.out]; rfl)]) HO.out⟩
    · obtain ⟨M, rfl⟩ : ∃ M, N = M + 1 := ⟨N - 1, by omega⟩
      have hNb : (((M : Int) + 1) == 0) = false := by rw [beq_eq_false_iff_ne]; omega
      have HN0 := Lib.hid (show ¬ ((M + 1 : Nat) : Int) = 0 by omega)
      clear hN0
      by_cases hlt : (r : Int) - (i + 4) < (M : Int) + 1
      · go_wp2_with fail
        go_region
        go_wp2_with (go_at_call 74; refine (stop_any _ _ _).mono ?_; rintro e w1 ⟨rfl, rfl⟩; dsimp only [faultE])
        all_goals (try simp only [Exit.inBlock, Exit.then])
        exact ⟨rfl, .bad (by rw [textF, if_neg (by have := HL.out; omega), HNN.out, if_neg HN0.out, if_pos (by rw [HC.out.len]; omega)]) HO.out.drew⟩
      · have HLT := Lib.hid (show M + 1 ≤ r - (i + 4) by omega)
        have HT := Lib.hid (fun W (hW : Cur W g K (i + 4) r dp) => take_any (many := M + 1) W hW (by omega))
        go_wp2_with fail
        go_region
        go_wp2_with (go_at_call 74; refine (stop_any _ _ _).mono ?_; rintro e w1 ⟨rfl, rfl⟩; dsimp only [faultE])
        refine (HT.out _ HC1.out.drew).mono ?_
        rintro e w4 (⟨hlt4, -⟩ | ⟨-, rfl, hc4, ho4⟩)
        · have := HLT.out; omega
        · have HC4 := Lib.hid hc4
          have HO4 := Lib.hid (HO.out.drew.trans ho4)
          have hTB : isB ((K.rest (i + 4) r).take (M + 1)) := isB_take (isB_take (isB_dropn HC.out.byte _) _) _
          have hTl : ((K.rest (i + 4) r).take (M + 1)).length = M + 1 := by have := HLT.out; rw [List.length_take, ← rest_drop, List.length_drop, HC.out.len]; omega
          have hTt : ((K.rest (i + 4) r).take (M + 1)).take M = ((K.rest i r).drop 4).take M := by rw [List.take_take, Nat.min_eq_left (by omega), rest_drop]
          obtain ⟨x, hx⟩ : ∃ x, ((K.rest (i + 4) r).take (M + 1))[M]? = some x := ⟨_, List.getElem?_eq_getElem (by have := HN0.out; omega)⟩
          have hxR : (K.rest i r).getD (3 + (M + 1)) 0 = x := by
            have := HN0.out
            rw [List.getElem?_take_of_lt (by omega), ← rest_drop, List.getElem?_drop] at hx
            rw [List.getD_eq_getElem?_getD, show 3 + (M + 1) = 4 + M by omega, hx]
            rfl
          have hcut := str_cut hTB (k := M) (by omega)
          rw [hTt] at hcut
          obtain ⟨hk, hxs⟩ := str_get hTB hx
          have hSz : (strOfNums ((K.rest (i + 4) r).take (M + 1))).size = M + 1 := by rw [← bsI_len, bsI_nums hTB, hTl]
          have hTF : ∀ b : ByteArray, b = strOfNums (((K.rest i r).drop 4).take M) → textF (K.rest i r) i = if x = 0 ∧ textOk b = true then .ok b (4 + (M + 1)) else .bad 24 (i + 4) := by
            intro b hb
            subst hb
            rw [textF, if_neg (by have := HL.out; omega), HNN.out, if_neg HN0.out, if_neg (by rw [HC.out.len]; omega), Int.toNat_natCast, hxR, show M + 1 - 1 = M by omega]
          generalize strOfNums ((K.rest (i + 4) r).take (M + 1)) = S at *
          generalize strOfNums (((K.rest i r).drop 4).take M) = b at *
          have HTF := Lib.hid (hTF b rfl)
          have hbs : b.size ≤ 140737488355328 := by rw [← hcut]; simp; omega
          have HV := Lib.hid (fun W => valid_any b W (by omega))
          have HX := Lib.hid hxs
          have HTT := Lib.hid ((HE.out.only HO4.out (by have := HGB.out; simpa using this)))
          clear hTF hc4 ho4 hTB hTl hTt hx hxR d1 d2
          have hMs : (M : Int) < (S.size : Int) := by omega
          have HCUT := Lib.hid hcut
          by_cases hx0 : x = 0
          · have hxe : ((S[M].toNat : Nat) : Int) = 0 := by rw [HX.out, hx0]
            cases hv : Lib.validD b.data.toList with
            | false =>
              have HF := Lib.hid (show textF (K.rest i r) i = .bad 24 (i + 4) by rw [HTF.out, if_neg (by rintro ⟨-, h⟩; unfold textOk at h; rw [hv] at h; cases h)])
              clear hcut hx0 hxs
              go_wp2_with (first
                | (go_at_call 65; rw [HCUT.out]; refine (HV.out _ HTT.out.tabs).mono ?_; rintro e w5 ⟨rfl, b5⟩; rw [hv])
                | (go_at_call 74; refine (stop_any _ _ _).mono ?_; rintro e w1 ⟨rfl, rfl⟩; dsimp only [faultE]))
              all_goals (try simp only [Exit.inBlock, Exit.then])
              all_goals exact ⟨rfl, .bad HF.out (HO4.out.trans (Only.of_below b5))⟩
            | true =>
              have HF := Lib.hid (show textF (K.rest i r) i = .ok b (4 + (M + 1)) by rw [HTF.out, if_pos ⟨hx0, by unfold textOk; exact hv⟩])
              clear hcut hx0 hxs
              go_wp2_with (first
                | (go_at_call 65; rw [HCUT.out]; refine (HV.out _ HTT.out.tabs).mono ?_; rintro e w5 ⟨rfl, b5⟩; rw [hv])
                | (go_at_call 74; refine (stop_any _ _ _).mono ?_; rintro e w1 ⟨rfl, rfl⟩; dsimp only [faultE]))
              go_ret
              exact .ok HF.out (congrArg Value.string HCUT.out) (by rw [show i + (4 + (M + 1)) = i + 4 + (M + 1) by omega]; exact HC4.out.then_ b5) (HO4.out.trans (Only.of_below b5))
          · have hxe : ((S[M].toNat : Nat) : Int) = x := HX.out
            have hxb : (x != 0) = true := by simpa using hx0
            have HF := Lib.hid (show textF (K.rest i r) i = .bad 24 (i + 4) by rw [HTF.out, if_neg (by rintro ⟨h, -⟩; exact hx0 h)])
            clear hcut hx0 hxs
            go_wp2_with (go_at_call 74; refine (stop_any _ _ _).mono ?_; rintro e w1 ⟨rfl, rfl⟩; dsimp only [faultE])
            all_goals (try simp only [Exit.inBlock, Exit.then])
            all_goals exact ⟨rfl, .bad HF.out HO4.out⟩
end Go.Proofs.YtjfgmcmnpekahaaDoor
