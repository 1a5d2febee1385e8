/- The document's own reader of layer 2: a field. No statement is proved here. -/
import Derived.Test.YtjfgmcmnpekahaaDoorBRv3
import Derived.Test.YtjfgmcmnpekahaaDoorBKind
import Derived.Test.YtjfgmcmnpekahaaDoorRefRight
namespace Go.Proofs.YtjfgmcmnpekahaaDoor
open Go.RowKit
set_option maxRecDepth 100000

theorem put6row {w : World} {g : Nat} {t : TypeId} {a0 a1 a2 a3 a4 a5 : Value} (h : w.heap[g]? = some (.cells #[a0, a1, a2, a3, a4, a5] t (0, 0))) (b0 b1 b2 b3 b4 b5 : Value) :
    ((((((w.setCell ⟨g, 0, none⟩ b0).setCell ⟨g, 1, none⟩ b1).setCell ⟨g, 2, none⟩ b2).setCell ⟨g, 3, none⟩ b3).setCell ⟨g, 4, none⟩ b4).setCell ⟨g, 5, none⟩ b5).heap[g]? = some (.cells #[b0, b1, b2, b3, b4, b5] t (0, 0)) := by
  have h1 := heap_setCell_same _ g 0 _ t b0 h
  have h2 := heap_setCell_same _ g 1 _ t b1 h1
  have h3 := heap_setCell_same _ g 2 _ t b2 h2
  have h4 := heap_setCell_same _ g 3 _ t b3 h3
  have h5 := heap_setCell_same _ g 4 _ t b4 h4
  have h6 := heap_setCell_same _ g 5 _ t b5 h5
  exact h6
theorem put6only (w : World) (g : Nat) (b0 b1 b2 b3 b4 b5 : Value) : Only [g] w ((((((w.setCell ⟨g, 0, none⟩ b0).setCell ⟨g, 1, none⟩ b1).setCell ⟨g, 2, none⟩ b2).setCell ⟨g, 3, none⟩ b3).setCell ⟨g, 4, none⟩ b4).setCell ⟨g, 5, none⟩ b5) :=
  ((((((Only.refl [g] w).setCell (p := ⟨g, 0, none⟩) (.inl (by simp)) b0).setCell (p := ⟨g, 1, none⟩) (.inl (by simp)) b1).setCell (p := ⟨g, 2, none⟩) (.inl (by simp)) b2).setCell (p := ⟨g, 3, none⟩) (.inl (by simp)) b3).setCell (p := ⟨g, 4, none⟩) (.inl (by simp)) b4).setCell (p := ⟨g, 5, none⟩) (.inl (by simp)) b5
def fieldArg (s : ByteArray) : T → Value
  | .mk k n x la lc l da dc d => .agg #[.string s, .int .i64 k, .int .i64 n, .string x, .slice la l.length lc, .slice da d.length dc]
def RValAt (n : Nat) : Prop := ∀ (w : World) (g : Nat) (K : Byt) (i last : Nat) (deep : Int) (B : Nat) (k : Int), RCur w g K i 0 0 → i ≤ last → last < K.bs.length → 1 ≤ k → k ≤ 11 → 0 ≤ deep → deep ≤ 20 → Env2 w B → B ≤ g → last - i + 3 ≤ n → Calls Tryd.prog 59 #[.pointer (some ⟨g, 0, none⟩), .int .i64 k, .int .i64 deep, .int .i64 last] w (RReads (valF n k deep (K.rest i last) i) g K i w)
/-- What reading a field yields, along the rest of a document. -/
def RField (list : Bool) (deep : Int) (K : Byt) (j last : Nat) (fs : List (ByteArray × V)) (g : Nat) (w : World) (e : Ending) (w' : World) : Prop :=
  Only [g] w w' ∧
  ((∃ c q, c ≠ 0 ∧ (∃ s t, e = .returned (fieldArg s t)) ∧ (∃ j', RCur w' g K j' c q) ∧ ∀ z, tailR list deep K j last z fs = .bad c q) ∨
   ∃ s t j', e = .returned (fieldArg s t) ∧ t.Own w' w.heap.size ∧ okLen s.size ∧ RCur w' g K j' 0 0 ∧ j < j' ∧ j' ≤ last ∧ ∀ z, tailR list deep K j last z fs = tailR list deep K j' last z (fs ++ [(s, t.val)]))
theorem toZ_none {R : List Int} (h : ∀ b ∈ R, b ≠ 0) : toZ R = none := by
  cases hz : toZ R with
  | none => rfl
  | some l =>
    obtain ⟨e, -, -⟩ := toZ_some hz
    exact absurd rfl (h 0 (by rw [e]; simp))
theorem toZ_at {R : List Int} {m : Nat} (h : ∀ b ∈ R.take m, b ≠ 0) (h0 : R[m]? = some 0) : toZ R = some (R.take m) := by
  obtain ⟨hm, h00⟩ := List.getElem?_eq_some_iff.1 h0
  have e : R = R.take m ++ 0 :: R.drop (m + 1) := by
    conv => lhs; rw [← List.take_append_drop m R, List.drop_eq_getElem_cons hm, h00]
  conv => lhs; rw [e]
  exact toZ_of _ _ h
theorem take_mem {R : List Int} {m : Nat} {x : Int} (h : x ∈ R.take (m + 1)) : x ∈ R.take m ∨ R[m]? = some x := by
  obtain ⟨i, hi⟩ := List.getElem?_of_mem h
  have hl := lt_of_get hi
  rw [List.length_take] at hl
  rw [List.getElem?_take_of_lt (by omega)] at hi
  by_cases e : i = m
  · subst e; exact .inr hi
  · exact .inl (List.mem_of_getElem? (by rw [List.getElem?_take_of_lt (show i < m by omega)]; exact hi))
theorem names_stepx {α : Type} {ts : List α} {F : α → List UInt8} {k : Nat} {f : α} {z : List UInt8} (h : ts[k]? = some f) : ((ts.take (k + 1)).map F).contains z = (((ts.take k).map F).contains z || (F f == z)) := by
  rw [List.take_add_one, h, List.map_append]
  simp only [Option.toList, List.map_cons, List.map_nil]
  rw [Bool.eq_iff_iff, List.contains_iff_mem, List.mem_append, Bool.or_eq_true, List.contains_iff_mem, List.mem_singleton, beq_iff_eq]
  constructor
  · rintro (h | h)
    · exact .inl h
    · exact .inr h.symm
  · rintro (h | h)
    · exact .inl h
    · exact .inr h.symm
theorem names_step {ts : List (ByteArray × T)} {k : Nat} {f : ByteArray × T} {z : List UInt8} (h : ts[k]? = some f) : ((ts.take (k + 1)).map fun f => f.1.data.toList).contains z = (((ts.take k).map fun f => f.1.data.toList).contains z || (f.1.data.toList == z)) := names_stepx h
theorem kind_eq {c : Int} (k : Nat) (h1 : 1 ≤ k) (h2 : k ≤ 11) : kindB.getD k 0 = c ↔ kindOf c = k := by
  constructor
  · rintro rfl
    have := (kind_back (k := (k : Int)) (by omega) (by omega)).2
    rw [Int.toNat_natCast] at this
    exact this
  · intro h
    have := kindB_of (c := c) (by omega)
    rw [h, Int.toNat_natCast] at this
    exact this
set_option maxHeartbeats 8000000 in
theorem rfield_any (n : Nat) (hV : RValAt n) {g : Nat} {K : Byt} {j last : Nat} {deep : Int} (list : Bool) (ts : List (ByteArray × T)) (a : Option Addr) (cap : Nat) (w : World) (h : RCur w g K j 0 0) (hj : j < last) (hl : last < K.bs.length) (hd0 : 0 ≤ deep) (hd1 : deep ≤ 20) (hO : T.Own w (g + 1) (.mk 5 0 ⟨#[]⟩ none 0 [] a cap ts)) {B : Nat} (hE : Env2 w B) (hgB : B ≤ g) (hn : last - j + 1 ≤ n) :
    Calls Tryd.prog 44 #[.pointer (some ⟨g, 0, none⟩), .int .i64 deep, .int .i64 last, .bool list, .slice a ts.length cap] w (RField list deep K j last (ts.map fun f => (f.1, f.2.val)) g w) := by
  have HV := Lib.hid hV
  have HC := Lib.hid h
  have HE := Lib.hid hE
  have HO := Lib.hid hO
  have hg := lt_of_block h.row
  have hcap := h.cap
  have hfar := h.far
  have HN := Lib.hid hn
  obtain ⟨c, hc⟩ : ∃ c, K.bs[j]? = some c := ⟨_, List.getElem?_eq_getElem (by omega)⟩
  obtain ⟨cc0, cc1⟩ := h.byte c (List.mem_of_getElem? hc)
  obtain ⟨b, o, ha⟩ := h.some_ (by omega)
  have HA := Lib.hid ha
  have HCC := Lib.hid hc
  have KC := Lib.hid (fun W (fc fq : Int) (j : Nat) (hW : RCur W g K j fc fq) => (show W.cell? ⟨g, 0, none⟩ = some (.slice (some ⟨b, o, none⟩) K.bs.length K.c) by
    have := row_cells hW.row 0
    rw [HA.out] at this
    exact this))
  clear hV h hE hO hn ha hc
  go_enter Tryd.func44, Tryd.ntmps44
  go_wp2_with fail
  have b1 := below1 w (.cells #[.string ⟨#[]⟩, .int .i64 0, .int .i64 0, .string ⟨#[]⟩, .slice none 0 0, .slice none 0 0] 51)
  have z0 := heap_alloc_new w (.cells #[.string ⟨#[]⟩, .int .i64 0, .int .i64 0, .string ⟨#[]⟩, .slice none 0 0, .slice none 0 0] 51)
  generalize w.alloc (.cells #[.string ⟨#[]⟩, .int .i64 0, .int .i64 0, .string ⟨#[]⟩, .slice none 0 0, .slice none 0 0] 51) = U at b1 z0 ⊢
  have HU := Lib.hid (And.intro (HC.out.then_ b1) (And.intro (HE.out.then_ b1) (And.intro z0 (And.intro (Only.of_below (S := [g]) b1) b1))))
  have u0 := KC.out _ _ _ _ HU.out.1
  have u1 := row_cells HU.out.1.row 1
  have ux := HU.out.1.byte_at HA.out HCC.out
  clear b1 z0
  go_region
  go_wp2_with fail
  clear u0 u1 ux
  go_loopw [11, 13] (fun f m wr => ∃ k : Nat, 1 ≤ k ∧ k ≤ 12 ∧ m = .int .i64 k ∧ f = .int .i64 (if kindOf c < k then kindOf c else 0) ∧ Below U.heap.size U wr) (fun _ m _ => 12 - (intOf m).toNat)
  case atStart =>
    refine ⟨1, by omega, by omega, rfl, ?_, (Below.refl _ _).drew⟩
    have := (kindOf_range c).1
    by_cases h0 : kindOf c < ((1 : Nat) : Int)
    · rw [if_pos h0, show kindOf c = 0 by omega]
    · rw [if_neg h0]
  case round =>
    obtain ⟨k, hk1, hk2, rfl, rfl, hb⟩ := hrel
    have HB := Lib.hid hb
    clear hb
    by_cases hk : k ≤ 11
    · have HK := Lib.hid (rkind_any k hk1 hk)
      have HKE := Lib.hid (kind_eq (c := c) k hk1 hk)
      obtain ⟨y, hy⟩ : ∃ y, kindB.getD k 0 = y := ⟨_, rfl⟩
      rw [hy] at HK HKE
      clear hy
      obtain ⟨ff, hff⟩ : ∃ ff, (if kindOf c < (k : Int) then kindOf c else 0) = ff := ⟨_, rfl⟩
      have HFF := Lib.hid hff
      rw [hff]
      clear hff
      go_wp2_with fail
      refine (HK.out _).mono ?_
      rintro e w3 ⟨rfl, b3⟩
      have HB3 := Lib.hid (below_then HB.out b3)
      clear b3
      by_cases hyc : y = c
      · have hyb : (y == c) = true := by simpa using hyc
        have HY := Lib.hid (HKE.out.1 hyc)
        clear hyc
        go_wp2_with fail
        go_roundw
        case rel => exact ⟨k + 1, by omega, by omega, by go_num, by rw [HY.out, if_pos (by omega)], HB3.out⟩
        case measure => simp [intOf]; omega
      · have hyb : (y == c) = false := by simpa using hyc
        have HY := Lib.hid (fun h => hyc (HKE.out.2 h))
        clear hyc
        go_wp2_with fail
        go_roundw
        case rel =>
          refine ⟨k + 1, by omega, by omega, by go_num, ?_, HB3.out⟩
          have : kindOf c ≠ k := HY.out
          rw [← HFF.out]
          by_cases h1 : kindOf c < (k : Int)
          · rw [if_pos h1, if_pos (by omega)]
          · rw [if_neg h1, if_neg (by omega)]
        case measure => simp [intOf]; omega
    obtain rfl : k = 12 := by omega
    rw [if_pos (by have := (kindOf_range c).2; omega)]
    obtain ⟨kd, hkd⟩ : ∃ kd, kindOf c = kd := ⟨_, rfl⟩
    have hkr := kindOf_range c
    rw [hkd] at hkr ⊢
    have HKD := Lib.hid (And.intro hkd hkr)
    have W1 := Lib.hid (And.intro (HU.out.1.then_ HB.out) (And.intro (HU.out.2.1.then_ HB.out) (And.intro (row_then HU.out.2.2.1 HB.out) (And.intro (HU.out.2.2.2.1.trans (Only.of_below HB.out)) (below_then HU.out.2.2.2.2 HB.out)))))
    clear hkd hkr hk hk1 hk2
    have c1 := row_cells W1.out.1.row
    have f1 := rowf W1.out.1.row
    have x1 := row_cells W1.out.2.2.1
    have y1 := rowf W1.out.2.2.1
    have hrest := fun W (hW : Only [g] wr W) => keep_row hW W1.out.2.2.1 (by simp; omega)
    have HW := Lib.hid (fun W (hW : Only [g] wr W) => row_cells (hrest W hW))
    have HY := Lib.hid (fun W (hW : Only [g] wr W) => rowf (hrest W hW))
    have HX := Lib.hid hrest
    clear hrest
    by_cases hc0 : c = 0
    · subst hc0
      go_wp2_with fail
      refine (wrong_any 26 j wr W1.out.1).mono ?_
      rintro e w2 ⟨rfl, hc2, ho2⟩
      have x2 := HW.out _ ho2
      have y2 := HY.out _ ho2
      clear c1 f1 x1 y1
      go_wp2_with fail
      have cp := row_cells (put6row (HX.out _ ho2) (.string ⟨#[]⟩) (.int .i64 0) (.int .i64 0) (.string ⟨#[]⟩) (.slice none 0 0) (.slice none 0 0))
      refine bodyPost_ret (v := .agg #[.string ⟨#[]⟩, .int .i64 0, .int .i64 0, .string ⟨#[]⟩, .slice none 0 0, .slice none 0 0]) (by simp [results, Tryd.results44, go_sem, cp]) rfl ?_
      have oW := put6only (w2) w.heap.size (.string ⟨#[]⟩) (.int .i64 0) (.int .i64 0) (.string ⟨#[]⟩) (.slice none 0 0) (.slice none 0 0)
      exact ⟨(W1.out.2.2.2.1.trans ho2).then_ oW (fun x hx => .inr (by simp at hx; omega)), .inl ⟨_, _, by decide, ⟨⟨#[]⟩, T.mk 0 0 ⟨#[]⟩ none 0 [] none 0 [], rfl⟩, ⟨_, HC.out.past hc2 oW (by simp)⟩, fun z => tail_end0 hj HCC.out⟩⟩
    have hcb : (c == 0) = false := by simpa using hc0
    by_cases hk0 : kd = 0
    · subst hk0
      have HC0 := Lib.hid hc0
      clear hc0
      go_wp2_with fail
      refine (wrong_any 22 j wr W1.out.1).mono ?_
      rintro e w2 ⟨rfl, hc2, ho2⟩
      have x2 := HW.out _ ho2
      have y2 := HY.out _ ho2
      clear c1 f1 x1 y1
      go_wp2_with fail
      have cp := row_cells (put6row (HX.out _ ho2) (.string ⟨#[]⟩) (.int .i64 0) (.int .i64 0) (.string ⟨#[]⟩) (.slice none 0 0) (.slice none 0 0))
      refine bodyPost_ret (v := .agg #[.string ⟨#[]⟩, .int .i64 0, .int .i64 0, .string ⟨#[]⟩, .slice none 0 0, .slice none 0 0]) (by simp [results, Tryd.results44, go_sem, cp]) rfl ?_
      have oW := put6only (w2) w.heap.size (.string ⟨#[]⟩) (.int .i64 0) (.int .i64 0) (.string ⟨#[]⟩) (.slice none 0 0) (.slice none 0 0)
      exact ⟨(W1.out.2.2.2.1.trans ho2).then_ oW (fun x hx => .inr (by simp at hx; omega)), .inl ⟨_, _, by decide, ⟨⟨#[]⟩, T.mk 0 0 ⟨#[]⟩ none 0 [] none 0 [], rfl⟩, ⟨_, HC.out.past hc2 oW (by simp)⟩, fun z => tail_kind hj HCC.out HC0.out HKD.out.1⟩⟩
    have hkb : (kd == 0) = false := by simpa using hk0
    have HC0 := Lib.hid (And.intro hc0 hk0)
    have hm1 := c1 1
    have hm0 := KC.out _ _ _ _ W1.out.1
    clear hc0 hk0 c1
    go_wp2_with fail
    have HWR := Lib.hid (wrong_any 23 ((j : Int) + 1) wr W1.out.1)
    have KB := Lib.hid (fun (k : Nat) (x : Int) (hx : K.bs[k]? = some x) => W1.out.1.byte_at HA.out hx)
    have HRB := Lib.hid (And.intro (rest_isB (i := j + 1) (r := last) W1.out.1.byte) (rest_len (i := j + 1) (K := K) (r := last) (by omega)))
    go_loopw [15] (fun e W => ∃ m : Nat, j + 1 + m ≤ last ∧ e = .int .i64 ((j : Int) + 1 + m) ∧ (∀ b ∈ (K.rest (j + 1) last).take m, b ≠ 0) ∧ W = wr) (fun e _ => last - (intOf e).toNat)
    case atStart => exact ⟨0, by omega, by simp, by simp, rfl⟩
    case round =>
      obtain ⟨m, hm, rfl, hno, rfl⟩ := hrel
      have HNO := Lib.hid hno
      clear hno
      have hsl : (K.rest (j + 1) last).take m = K.rest (j + 1) (j + 1 + m) := rest_take (by omega)
      have HSL := Lib.hid hsl
      have ks := slice_bytes wr b o K.c K.bs.length ((j : Int) + 1) ((j : Int) + 1 + m) (j + 1) m (by omega) (by omega) (by omega) (by omega)
      have kcv := W1.out.1.str HA.out (j := j + 1) (m := m) (c := K.c - (j + 1)) (by omega)
      have hsz : (strOfNums (K.rest (j + 1) (j + 1 + m))).size = m := by rw [nums_size, rest_len (by omega)]; omega
      have HSZ := Lib.hid hsz
      clear hsl hsz
      by_cases hlast : j + 1 + m = last
      · have HZ := Lib.hid (toZ_none (R := K.rest (j + 1) last) (fun b hb => HNO.out b (by rw [List.take_of_length_le (by rw [HRB.out.2]; omega)]; exact hb)))
        have HT := Lib.hid (fun z => tail_none (list := list) (deep := deep) (z := z) (fs := ts.map fun f => (f.1, f.2.val)) hj HCC.out HC0.out.1 (by rw [HKD.out.1]; exact HC0.out.2) HZ.out)
        have hle : (last : Int) = (j : Int) + 1 + m := by omega
        have HLE := Lib.hid hle
        have hnl : ¬ ((j : Int) + 1 + m < last) := by omega
        generalize strOfNums (K.rest (j + 1) (j + 1 + m)) = s at kcv HSZ
        clear hle hlast
        have hdd := HO.out.ok.parts.2.2.2.2.2.2.2.2.1
        cases list
        · go_wp2_with fail
          go_loopw [17, 18] (fun q i W => ∃ k : Nat, k ≤ ts.length ∧ q = .bool false ∧ i = .int .i64 k ∧ W = wr) (fun _ i _ => ts.length - (intOf i).toNat)
          case atStart => exact ⟨0, by omega, rfl, rfl, rfl⟩
          case round =>
            obtain ⟨k, hk, rfl, rfl, rfl⟩ := hrel
            by_cases hkl : k < ts.length
            · go_wp2_with fail
              go_roundw
              case rel => exact ⟨k + 1, by omega, by trivial, by go_num, by trivial⟩
              case measure => simp [intOf]; omega
            · go_wp2_with fail
              refine (HWR.out).mono ?_
              rintro e w2 ⟨rfl, hc2, ho2⟩
              have x2 := HW.out _ ho2
              have y2 := HY.out _ ho2
              clear x1 y1 f1
              go_wp2_with fail
              have cp := row_cells (put6row (HX.out _ ho2) (.string ⟨#[]⟩) (.int .i64 0) (.int .i64 0) (.string ⟨#[]⟩) (.slice none 0 0) (.slice none 0 0))
              refine bodyPost_ret (v := .agg #[.string ⟨#[]⟩, .int .i64 0, .int .i64 0, .string ⟨#[]⟩, .slice none 0 0, .slice none 0 0]) (by simp [results, Tryd.results44, go_sem, cp]) rfl ?_
              have oW := put6only (w2) w.heap.size (.string ⟨#[]⟩) (.int .i64 0) (.int .i64 0) (.string ⟨#[]⟩) (.slice none 0 0) (.slice none 0 0)
              exact ⟨(W1.out.2.2.2.1.trans ho2).then_ oW (fun x hx => .inr (by simp at hx; omega)), .inl ⟨_, _, by decide, ⟨⟨#[]⟩, T.mk 0 0 ⟨#[]⟩ none 0 [] none 0 [], rfl⟩, ⟨_, HC.out.past hc2 oW (by simp)⟩, fun z => HT.out z⟩⟩
        · go_wp2_with fail
          refine (HWR.out).mono ?_
          rintro e w2 ⟨rfl, hc2, ho2⟩
          have x2 := HW.out _ ho2
          have y2 := HY.out _ ho2
          clear x1 y1 f1
          go_wp2_with fail
          have cp := row_cells (put6row (HX.out _ ho2) (.string ⟨#[]⟩) (.int .i64 0) (.int .i64 0) (.string ⟨#[]⟩) (.slice none 0 0) (.slice none 0 0))
          refine bodyPost_ret (v := .agg #[.string ⟨#[]⟩, .int .i64 0, .int .i64 0, .string ⟨#[]⟩, .slice none 0 0, .slice none 0 0]) (by simp [results, Tryd.results44, go_sem, cp]) rfl ?_
          have oW := put6only (w2) w.heap.size (.string ⟨#[]⟩) (.int .i64 0) (.int .i64 0) (.string ⟨#[]⟩) (.slice none 0 0) (.slice none 0 0)
          exact ⟨(W1.out.2.2.2.1.trans ho2).then_ oW (fun x hx => .inr (by simp at hx; omega)), .inl ⟨_, _, by decide, ⟨⟨#[]⟩, T.mk 0 0 ⟨#[]⟩ none 0 [] none 0 [], rfl⟩, ⟨_, HC.out.past hc2 oW (by simp)⟩, fun z => HT.out z⟩⟩
      · obtain ⟨x, hx⟩ : ∃ x, K.bs[j + 1 + m]? = some x := ⟨_, List.getElem?_eq_getElem (by omega)⟩
        have hlt : ((j : Int) + 1 + m < last) := by omega
        have hcx := KB.out _ _ hx
        have hcx2 : wr.cell? ⟨b, o + (j + (1 + m)), none⟩ = some (.int .u8 x) := by rw [← Nat.add_assoc j 1 m]; exact hcx
        have HXX := Lib.hid hx
        clear hx
        by_cases hx0 : x = 0
        · subst hx0
          have hz := toZ_at (R := K.rest (j + 1) last) (m := m) HNO.out (by rw [rest_get (by omega)]; exact HXX.out)
          have hlm : ((K.rest (j + 1) last).take m).length = m := by rw [List.length_take, HRB.out.2]; omega
          have hT1 := fun z (hm : mayName list (ts.map fun f => (f.1, f.2.val)) (strOfNums ((K.rest (j + 1) last).take m)) = false) => tail_name (deep := deep) (z := z) hj HCC.out HC0.out.1 (by rw [HKD.out.1]; exact HC0.out.2) hz hm
          have hT2 := fun z (hm : mayName list (ts.map fun f => (f.1, f.2.val)) (strOfNums ((K.rest (j + 1) last).take m)) = true) => tail_val (deep := deep) (z := z) hj HCC.out HC0.out.1 (by rw [HKD.out.1]; exact HC0.out.2) hz hm
          rw [hlm, HKD.out.1] at hT2
          rw [HSL.out] at hT1 hT2
          have HMM := Lib.hid (fun (v : V) (mm : Nat) (h : valR kd deep (K.rest (j + 1 + m + 1) last) ((j + 1 + m + 1 : Nat) : Int) = .ok v mm) => (show mm ≤ last - (j + 1 + m + 1) by
            have h1 := ((sound_all _).2.2 _ _ _ _ _ _ (rest_isB W1.out.1.byte) (by have := HC0.out.2; have := HKD.out.2; omega) HKD.out.2.2 h).2.1
            rw [rest_len (by omega)] at h1
            exact h1))
          have hss : okLen (strOfNums (K.rest (j + 1) (j + 1 + m))).size := by rw [HSZ.out]; unfold okLen; omega
          generalize strOfNums (K.rest (j + 1) (j + 1 + m)) = s at kcv HSZ hT1 hT2 hss
          have HS := Lib.hid (And.intro HSZ.out hss)
          have HT1 := Lib.hid hT1
          have HT2 := Lib.hid hT2
          clear hz hlm hT1 hT2 hss hlast
          have hdd := HO.out.ok.parts.2.2.2.2.2.2.2.2.1
          cases list
          · have HNM := Lib.hid (refName_any s wr (by rw [HS.out.1]; omega) W1.out.2.1.tabs)
            have hmay : mayName false (ts.map fun f => (f.1, f.2.val)) s = (nameOk s && !((ts.map fun f => f.1.data.toList).contains s.data.toList)) := by
              unfold mayName
              rw [List.map_map]
              rfl
            have HMAY := Lib.hid hmay
            clear hmay
            generalize nameOk s = ok0 at HNM HMAY
            go_wp2_with fail
            refine HNM.out.mono ?_
            rintro e w3 ⟨rfl, b3⟩
            have HB3 := Lib.hid b3
            clear b3
            go_wp2_with fail
            go_loopw [17, 18] (fun q i W => ∃ k : Nat, k ≤ ts.length ∧ q = .bool (ok0 && !(((ts.take k).map fun f => f.1.data.toList).contains s.data.toList)) ∧ i = .int .i64 k ∧ w3 = W) (fun _ i _ => ts.length - (intOf i).toNat)
            case atStart => exact ⟨0, by omega, by simp, rfl, rfl⟩
            case round =>
              obtain ⟨k, hk, rfl, rfl, rfl⟩ := hrel
              obtain ⟨qq, hqq⟩ : ∃ qq, (ok0 && !(((ts.take k).map fun f => f.1.data.toList).contains s.data.toList)) = qq := ⟨_, rfl⟩
              have HQQ := Lib.hid hqq
              rw [hqq]
              clear hqq
              by_cases hkl : k < ts.length
              · have hin3 := (HO.out.keep (W1.out.2.2.2.1.trans (Only.of_below HB3.out)) (by simp) (Nat.le_refl _)).in_
                obtain ⟨b', o', f1', k1, n1, s1, la1, lc1, l1, da1, dc1, d1, rfl, hx', hix, q0, q1, q2, q3, q4, q5⟩ := hin3.parts.2.six hkl
                have HNS := Lib.hid (names_step (z := s.data.toList) hx')
                clear hin3 hx' hix q1 q2 q3 q4 q5
                cases qq with
                | false =>
                  go_wp2_with fail
                  go_roundw
                  case rel =>
                    refine ⟨k + 1, by omega, ?_, by go_num, by trivial⟩
                    have h := HQQ.out
                    rw [HNS.out]
                    revert h
                    cases ok0 <;> simp
                    intro h
                    simp [h]
                  case measure => simp [intOf]; omega
                | true =>
                  cases hv : (f1'.toList == s.toList) with
                  | false =>
                    have hvn : (f1'.toList != s.toList) = true := by simp [bne, hv]
                    go_wp2_with fail
                    go_roundw
                    case rel =>
                      refine ⟨k + 1, by omega, ?_, by go_num, by trivial⟩
                      have h := HQQ.out
                      rw [HNS.out]
                      rw [Lib.toList_data, Lib.toList_data] at hv
                      revert h
                      cases ok0 <;> simp_all
                    case measure => simp [intOf]; omega
                  | true =>
                    have hvn : (f1'.toList != s.toList) = false := by simp [bne, hv]
                    go_wp2_with fail
                    go_roundw
                    case rel =>
                      refine ⟨k + 1, by omega, ?_, by go_num, by trivial⟩
                      have h := HQQ.out
                      rw [HNS.out]
                      rw [Lib.toList_data, Lib.toList_data] at hv
                      revert h
                      cases ok0 <;> simp_all
                    case measure => simp [intOf]; omega
              · cases qq with
                | false =>
                  go_wp2_with fail
                  refine (wrong_any 23 ((j : Int) + 1) w3 (W1.out.1.then_ HB3.out)).mono ?_
                  rintro e w2 ⟨rfl, hc2, ho2'⟩
                  have ho2 : Only [g] wr w2 := (Only.of_below HB3.out).trans ho2'
                  have x2 := HW.out _ ho2
                  have y2 := HY.out _ ho2
                  clear x1 y1 f1
                  go_wp2_with fail
                  have cp := row_cells (put6row (HX.out _ ho2) (.string ⟨#[]⟩) (.int .i64 0) (.int .i64 0) (.string ⟨#[]⟩) (.slice none 0 0) (.slice none 0 0))
                  refine bodyPost_ret (v := .agg #[.string ⟨#[]⟩, .int .i64 0, .int .i64 0, .string ⟨#[]⟩, .slice none 0 0, .slice none 0 0]) (by simp [results, Tryd.results44, go_sem, cp]) rfl ?_
                  have oW := put6only (w2) w.heap.size (.string ⟨#[]⟩) (.int .i64 0) (.int .i64 0) (.string ⟨#[]⟩) (.slice none 0 0) (.slice none 0 0)
                  exact ⟨(W1.out.2.2.2.1.trans ho2).then_ oW (fun x hx => .inr (by simp at hx; omega)), .inl ⟨_, _, by decide, ⟨⟨#[]⟩, T.mk 0 0 ⟨#[]⟩ none 0 [] none 0 [], rfl⟩, ⟨_, HC.out.past hc2 oW (by simp)⟩, fun z => HT1.out z (by rw [HMAY.out, ← HQQ.out, List.take_of_length_le (by omega)])⟩⟩
                | true =>
                  have HT := Lib.hid (fun z => HT2.out z (by rw [HMAY.out, ← HQQ.out, List.take_of_length_le (by omega)]))
                  have hat : w3.setCell ⟨g, 1, none⟩ (.int .i64 ((j : Int) + 1 + m + 1)) = w3.setCell ⟨g, 1, none⟩ (.int .i64 ((j + 1 + m + 1 : Nat) : Int)) := by congr 2
                  have hcA : RCur (w3.setCell ⟨g, 1, none⟩ (.int .i64 ((j : Int) + 1 + m + 1))) g K (j + 1 + m + 1) 0 0 := (W1.out.1.then_ HB3.out).at2 _ _ (by omega)
                  have hoA : Only [g] wr (w3.setCell ⟨g, 1, none⟩ (.int .i64 ((j : Int) + 1 + m + 1))) := (Only.of_below HB3.out).setCell (p := ⟨g, 1, none⟩) (.inl (by simp)) _
                  have HVV := Lib.hid (HV.out _ g K (j + 1 + m + 1) last deep B kd hcA (by omega) hl (by have := HC0.out.2; have := HKD.out.2; omega) HKD.out.2.2 hd0 hd1 (W1.out.2.1.only hoA (by simpa using hgB)) hgB (by have := HN.out; omega))
                  rw [valR_eq (by rw [rest_len (by omega)]; have := HN.out; omega)] at HVV
                  have xA := HW.out _ hoA
                  have yA := HY.out _ hoA
                  have HOA := Lib.hid hoA
                  have c3 := row_cells (W1.out.1.then_ HB3.out).row
                  have f3 := rowf (W1.out.1.then_ HB3.out).row
                  have hsA := Nat.lt_of_lt_of_le (lt_of_block W1.out.2.2.1) hoA.size
                  have HSA := Lib.hid hsA
                  clear hat hcA hoA x1 y1 f1 hsA
                  go_wp2_with fail
                  refine HVV.out.mono ?_
                  rintro e w4 ⟨ho4, h4⟩
                  have HO4 := Lib.hid (HOA.out.trans ho4)
                  have hs4 := Nat.lt_of_lt_of_le HSA.out ho4.size
                  clear ho4 xA yA c3 f3
                  rcases hr : valR kd deep (K.rest (j + 1 + m + 1) last) ((j + 1 + m + 1 : Nat) : Int) with ⟨c', q⟩ | ⟨v, mm⟩
                  · rw [hr] at h4
                    have HRR := Lib.hid hr
                    obtain ⟨h0, ⟨⟨kt, nt, st, lat, lct, lt, dat, dct, dt⟩, rfl⟩, j', hc4⟩ := h4
                    dsimp only [T.arg, T.cells]
                    have x4 := HW.out _ HO4.out
                    have y4 := HY.out _ HO4.out
                    have hne4 : ¬ w.heap.size = w4.heap.size := by omega
                    have H4 := Lib.hid (And.intro h0 hc4)
                    clear h0 hc4 hr
                    go_wp2_with fail
                    have cp := row_cells (row_then (put6row (HX.out _ HO4.out) (.string s) (.int .i64 kt) (.int .i64 nt) (.string st) (.slice lat lt.length lct) (.slice dat dt.length dct)) (below1 _ (.cells #[.int .i64 kt, .int .i64 nt, .string st, .slice lat lt.length lct, .slice dat dt.length dct] 25)))
                    refine bodyPost_ret (v := .agg #[.string s, .int .i64 kt, .int .i64 nt, .string st, .slice lat lt.length lct, .slice dat dt.length dct]) (by simp [results, Tryd.results44, go_sem, cp]) rfl ?_
                    have oW := (put6only w4 w.heap.size (.string s) (.int .i64 kt) (.int .i64 nt) (.string st) (.slice lat lt.length lct) (.slice dat dt.length dct)).trans (Only.of_below (below1 _ (.cells #[.int .i64 kt, .int .i64 nt, .string st, .slice lat lt.length lct, .slice dat dt.length dct] 25)))
                    exact ⟨(W1.out.2.2.2.1.trans HO4.out).then_ oW (fun x hx => .inr (by simp at hx; omega)), .inl ⟨_, _, H4.out.1, ⟨s, T.mk kt nt st lat lct lt dat dct dt, rfl⟩, ⟨_, HC.out.past H4.out.2 oW (by simp)⟩, fun z => by rw [HT.out z, HRR.out]⟩⟩
                  · rw [hr] at h4
                    have HRR := Lib.hid hr
                    obtain ⟨⟨kt, nt, st, lat, lct, lt, dat, dct, dt⟩, rfl, hv, ht, hc4⟩ := h4
                    dsimp only [T.arg, T.cells]
                    have x4 := HW.out _ HO4.out
                    have y4 := HY.out _ HO4.out
                    have hne4 : ¬ w.heap.size = w4.heap.size := by omega
                    have H4 := Lib.hid (And.intro hv (And.intro ht hc4))
                    clear hv ht hc4 hr
                    go_wp2_with fail
                    have cp := row_cells (row_then (put6row (HX.out _ HO4.out) (.string s) (.int .i64 kt) (.int .i64 nt) (.string st) (.slice lat lt.length lct) (.slice dat dt.length dct)) (below1 _ (.cells #[.int .i64 kt, .int .i64 nt, .string st, .slice lat lt.length lct, .slice dat dt.length dct] 25)))
                    refine bodyPost_ret (v := .agg #[.string s, .int .i64 kt, .int .i64 nt, .string st, .slice lat lt.length lct, .slice dat dt.length dct]) (by simp [results, Tryd.results44, go_sem, cp]) rfl ?_
                    have oW := (put6only w4 w.heap.size (.string s) (.int .i64 kt) (.int .i64 nt) (.string st) (.slice lat lt.length lct) (.slice dat dt.length dct)).trans (Only.of_below (below1 _ (.cells #[.int .i64 kt, .int .i64 nt, .string st, .slice lat lt.length lct, .slice dat dt.length dct] 25)))
                    have hmm : mm ≤ last - (j + 1 + m + 1) := HMM.out _ _ HRR.out
                    exact ⟨(W1.out.2.2.2.1.trans HO4.out).then_ oW (fun x hx => .inr (by simp at hx; omega)), .inr ⟨s, T.mk kt nt st lat lct lt dat dct dt, _, rfl, H4.out.2.1.keep oW (by intro y hy; rw [List.mem_singleton] at hy; subst hy; exact HSA.out) (Nat.le_of_lt HSA.out), HS.out.2, HC.out.past H4.out.2.2 oW (by simp), by omega, by omega, fun z => by rw [HT.out z, HRR.out, ← H4.out.1]⟩⟩
          · have HIT := Lib.hid (itoa_any W1.out.2.1 ts.length (by omega))
            have hmay : mayName true (ts.map fun f => (f.1, f.2.val)) s = (s.toList == (itoaB ts.length).toList) := by unfold mayName; rw [List.length_map]; rfl
            have HMAY := Lib.hid hmay
            clear hmay
            generalize itoaB ts.length = it at HIT HMAY
            cases hv : (s.toList == it.toList) with
            | false =>
              go_wp2_with (first
                | (go_at_call 41; refine HIT.out.mono ?_; rintro e w3 ⟨rfl, b3⟩; have HB3 := Lib.hid b3; clear b3))
              refine (wrong_any 23 ((j : Int) + 1) w3 (W1.out.1.then_ HB3.out)).mono ?_
              rintro e w2 ⟨rfl, hc2, ho2'⟩
              have ho2 : Only [g] wr w2 := (Only.of_below HB3.out).trans ho2'
              have x2 := HW.out _ ho2
              have y2 := HY.out _ ho2
              clear x1 y1 f1
              go_wp2_with fail
              have cp := row_cells (put6row (HX.out _ ho2) (.string ⟨#[]⟩) (.int .i64 0) (.int .i64 0) (.string ⟨#[]⟩) (.slice none 0 0) (.slice none 0 0))
              refine bodyPost_ret (v := .agg #[.string ⟨#[]⟩, .int .i64 0, .int .i64 0, .string ⟨#[]⟩, .slice none 0 0, .slice none 0 0]) (by simp [results, Tryd.results44, go_sem, cp]) rfl ?_
              have oW := put6only (w2) w.heap.size (.string ⟨#[]⟩) (.int .i64 0) (.int .i64 0) (.string ⟨#[]⟩) (.slice none 0 0) (.slice none 0 0)
              exact ⟨(W1.out.2.2.2.1.trans ho2).then_ oW (fun x hx => .inr (by simp at hx; omega)), .inl ⟨_, _, by decide, ⟨⟨#[]⟩, T.mk 0 0 ⟨#[]⟩ none 0 [] none 0 [], rfl⟩, ⟨_, HC.out.past hc2 oW (by simp)⟩, fun z => HT1.out z (by rw [HMAY.out, hv])⟩⟩
            | true =>
              have HT := Lib.hid (fun z => HT2.out z (by rw [HMAY.out, hv]))
              go_wp2_with fail
              refine HIT.out.mono ?_
              rintro e w3 ⟨rfl, b3⟩
              have HB3 := Lib.hid b3
              clear b3
              have hat : w3.setCell ⟨g, 1, none⟩ (.int .i64 ((j : Int) + 1 + m + 1)) = w3.setCell ⟨g, 1, none⟩ (.int .i64 ((j + 1 + m + 1 : Nat) : Int)) := by congr 2
              have hcA : RCur (w3.setCell ⟨g, 1, none⟩ (.int .i64 ((j : Int) + 1 + m + 1))) g K (j + 1 + m + 1) 0 0 := (W1.out.1.then_ HB3.out).at2 _ _ (by omega)
              have hoA : Only [g] wr (w3.setCell ⟨g, 1, none⟩ (.int .i64 ((j : Int) + 1 + m + 1))) := (Only.of_below HB3.out).setCell (p := ⟨g, 1, none⟩) (.inl (by simp)) _
              have HVV := Lib.hid (HV.out _ g K (j + 1 + m + 1) last deep B kd hcA (by omega) hl (by have := HC0.out.2; have := HKD.out.2; omega) HKD.out.2.2 hd0 hd1 (W1.out.2.1.only hoA (by simpa using hgB)) hgB (by have := HN.out; omega))
              rw [valR_eq (by rw [rest_len (by omega)]; have := HN.out; omega)] at HVV
              have xA := HW.out _ hoA
              have yA := HY.out _ hoA
              have HOA := Lib.hid hoA
              have c3 := row_cells (W1.out.1.then_ HB3.out).row
              have f3 := rowf (W1.out.1.then_ HB3.out).row
              have hsA := Nat.lt_of_lt_of_le (lt_of_block W1.out.2.2.1) hoA.size
              have HSA := Lib.hid hsA
              clear hat hcA hoA x1 y1 f1 hsA
              go_wp2_with fail
              refine HVV.out.mono ?_
              rintro e w4 ⟨ho4, h4⟩
              have HO4 := Lib.hid (HOA.out.trans ho4)
              have hs4 := Nat.lt_of_lt_of_le HSA.out ho4.size
              clear ho4 xA yA c3 f3
              rcases hr : valR kd deep (K.rest (j + 1 + m + 1) last) ((j + 1 + m + 1 : Nat) : Int) with ⟨c', q⟩ | ⟨v, mm⟩
              · rw [hr] at h4
                have HRR := Lib.hid hr
                obtain ⟨h0, ⟨⟨kt, nt, st, lat, lct, lt, dat, dct, dt⟩, rfl⟩, j', hc4⟩ := h4
                dsimp only [T.arg, T.cells]
                have x4 := HW.out _ HO4.out
                have y4 := HY.out _ HO4.out
                have hne4 : ¬ w.heap.size = w4.heap.size := by omega
                have H4 := Lib.hid (And.intro h0 hc4)
                clear h0 hc4 hr
                go_wp2_with fail
                have cp := row_cells (row_then (put6row (HX.out _ HO4.out) (.string s) (.int .i64 kt) (.int .i64 nt) (.string st) (.slice lat lt.length lct) (.slice dat dt.length dct)) (below1 _ (.cells #[.int .i64 kt, .int .i64 nt, .string st, .slice lat lt.length lct, .slice dat dt.length dct] 25)))
                refine bodyPost_ret (v := .agg #[.string s, .int .i64 kt, .int .i64 nt, .string st, .slice lat lt.length lct, .slice dat dt.length dct]) (by simp [results, Tryd.results44, go_sem, cp]) rfl ?_
                have oW := (put6only w4 w.heap.size (.string s) (.int .i64 kt) (.int .i64 nt) (.string st) (.slice lat lt.length lct) (.slice dat dt.length dct)).trans (Only.of_below (below1 _ (.cells #[.int .i64 kt, .int .i64 nt, .string st, .slice lat lt.length lct, .slice dat dt.length dct] 25)))
                exact ⟨(W1.out.2.2.2.1.trans HO4.out).then_ oW (fun x hx => .inr (by simp at hx; omega)), .inl ⟨_, _, H4.out.1, ⟨s, T.mk kt nt st lat lct lt dat dct dt, rfl⟩, ⟨_, HC.out.past H4.out.2 oW (by simp)⟩, fun z => by rw [HT.out z, HRR.out]⟩⟩
              · rw [hr] at h4
                have HRR := Lib.hid hr
                obtain ⟨⟨kt, nt, st, lat, lct, lt, dat, dct, dt⟩, rfl, hv, ht, hc4⟩ := h4
                dsimp only [T.arg, T.cells]
                have x4 := HW.out _ HO4.out
                have y4 := HY.out _ HO4.out
                have hne4 : ¬ w.heap.size = w4.heap.size := by omega
                have H4 := Lib.hid (And.intro hv (And.intro ht hc4))
                clear hv ht hc4 hr
                go_wp2_with fail
                have cp := row_cells (row_then (put6row (HX.out _ HO4.out) (.string s) (.int .i64 kt) (.int .i64 nt) (.string st) (.slice lat lt.length lct) (.slice dat dt.length dct)) (below1 _ (.cells #[.int .i64 kt, .int .i64 nt, .string st, .slice lat lt.length lct, .slice dat dt.length dct] 25)))
                refine bodyPost_ret (v := .agg #[.string s, .int .i64 kt, .int .i64 nt, .string st, .slice lat lt.length lct, .slice dat dt.length dct]) (by simp [results, Tryd.results44, go_sem, cp]) rfl ?_
                have oW := (put6only w4 w.heap.size (.string s) (.int .i64 kt) (.int .i64 nt) (.string st) (.slice lat lt.length lct) (.slice dat dt.length dct)).trans (Only.of_below (below1 _ (.cells #[.int .i64 kt, .int .i64 nt, .string st, .slice lat lt.length lct, .slice dat dt.length dct] 25)))
                have hmm : mm ≤ last - (j + 1 + m + 1) := HMM.out _ _ HRR.out
                exact ⟨(W1.out.2.2.2.1.trans HO4.out).then_ oW (fun x hx => .inr (by simp at hx; omega)), .inr ⟨s, T.mk kt nt st lat lct lt dat dct dt, _, rfl, H4.out.2.1.keep oW (by intro y hy; rw [List.mem_singleton] at hy; subst hy; exact HSA.out) (Nat.le_of_lt HSA.out), HS.out.2, HC.out.past H4.out.2.2 oW (by simp), by omega, by omega, fun z => by rw [HT.out z, HRR.out, ← H4.out.1]⟩⟩
        · have hxb : (x != 0) = true := by simpa using hx0
          have HX0 := Lib.hid hx0
          clear hx0 hlast ks kcv
          go_wp2_with fail
          go_roundw
          case rel =>
            refine ⟨m + 1, by omega, by go_num, fun b hb => ?_, by trivial⟩
            rcases take_mem hb with h | h
            · exact HNO.out b h
            · rw [rest_get (by omega), HXX.out] at h
              injection h with h
              rw [← h]
              exact HX0.out
          case measure => simp [intOf]; omega
end Go.Proofs.YtjfgmcmnpekahaaDoor
