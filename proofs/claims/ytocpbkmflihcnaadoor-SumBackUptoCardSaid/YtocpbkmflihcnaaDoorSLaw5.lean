/- The law SumTells over the contracts. No statement is proved here. -/
import Derived.Test.YtocpbkmflihcnaaDoorSLaw4
namespace Go.Proofs.YtocpbkmflihcnaaDoor
open Go.RowKit
set_option maxRecDepth 100000

theorem natL_inj : ∀ {a b : List Int}, isB a → isB b → natL a = natL b → a = b
  | [], [], _, _, _ => rfl
  | [], _ :: _, _, _, h => by simp [natL] at h
  | _ :: _, [], _, _, h => by simp [natL] at h
  | x :: a, y :: b, ha, hb, h => by
    simp only [natL, List.map_cons, List.cons.injEq] at h
    have h1 := ha x (by simp)
    have h2 := hb y (by simp)
    rw [show x = y by omega, natL_inj (fun z hz => ha z (by simp [hz])) (fun z hz => hb z (by simp [hz])) h.2]
theorem tells_is {a d e c : List Int} (hd : isB d) (he : isB e) (hl : d.length = e.length) (h4 : d.length ≤ 4) : (moreP 0 (a ++ (d ++ c)) = moreP 0 (a ++ (e ++ c))) ↔ d = e := by
  rw [moreP_is, moreP_is, natL_append, natL_append, natL_append, natL_append]
  have h := moreN_tells (natL a) (natL d) (natL e) (natL c) (by rw [natL_len, natL_len, hl]) (by rw [natL_len]; exact h4) (natL_byte hd) (natL_byte he)
  constructor
  · intro q
    exact natL_inj hd he (h.1 (by omega))
  · rintro rfl; rfl
theorem xor_byte {z y : Int} (hz : 0 ≤ z ∧ z ≤ 255) (hy : 0 ≤ y ∧ y ≤ 255) : (0 ≤ bits .xor .u8 z y ∧ bits .xor .u8 z y ≤ 255) ∧ (bits .xor .u8 z y = z ↔ y = 0) := by
  have e := u8_xor z y (by omega) (by omega) (by omega) (by omega)
  have hl := Nat.xor_lt_two_pow (n := 8) (show z.toNat < 2 ^ 8 by omega) (show y.toNat < 2 ^ 8 by omega)
  rw [e]
  refine ⟨by omega, fun h => ?_, fun h => ?_⟩
  · have h1 : z.toNat ^^^ y.toNat = z.toNat := by omega
    have h2 := congrArg (z.toNat ^^^ ·) h1
    simp only [xor_self_left, Nat.xor_self] at h2
    omega
  · subst h
    simp
    omega
/-- The part that was turned so far. -/
structure Turned (la : List Int) (k i : Nat) (d : List Int) (same : Bool) : Prop where
  len : d.length = i
  byte : isB d
  same_ : same = decide (d = (la.drop k).take i)
  fits : k + i ≤ la.length
theorem Turned.next {la : List Int} {k i : Nat} {d : List Int} {same : Bool} (h : Turned la k i d same) {z y : Int} (hz : la[k + i]? = some z) (hzb : 0 ≤ z ∧ z ≤ 255) (hy : 0 ≤ y ∧ y ≤ 255) :
    Turned la k (i + 1) (d ++ [bits .xor .u8 z y]) (same && decide (y = 0)) ∧ (la.take k ++ (d ++ la.drop (k + i))).set (k + i) (bits .xor .u8 z y) = la.take k ++ ((d ++ [bits .xor .u8 z y]) ++ la.drop (k + (i + 1))) ∧ (la.take k ++ (d ++ la.drop (k + i)))[k + i]? = some z := by
  have hi := lt_of_get hz
  have hx := xor_byte hzb hy
  have e1 : (la.drop k).take (i + 1) = (la.drop k).take i ++ [z] := by rw [List.take_add_one, List.getElem?_drop, hz]; rfl
  have hg : la[k + i] = z := by rw [List.getElem?_eq_getElem hi] at hz; injection hz
  have e2 : la.drop (k + i) = z :: la.drop (k + (i + 1)) := by rw [List.drop_eq_getElem_cons hi, hg]; rfl
  have hlt : (la.take k).length = k := by rw [List.length_take]; have := h.fits; omega
  refine ⟨⟨by rw [List.length_append, h.len]; rfl, h.byte.append (fun q hq => by simp at hq; subst hq; exact hx.1), ?_, by omega⟩, ?_, ?_⟩
  · rw [h.same_, e1, Bool.eq_iff_iff, Bool.and_eq_true, decide_eq_true_eq, decide_eq_true_eq, decide_eq_true_eq, ← hx.2]
    constructor
    · rintro ⟨h1, h2⟩; rw [← h1, h2]
    · intro h1
      have := List.append_inj h1 (by rw [h.len, List.length_take, List.length_drop]; omega)
      exact ⟨this.1, by have := this.2; injection this⟩
  · rw [List.set_append_right _ _ (by omega), hlt, List.set_append_right _ _ (by rw [h.len]; omega), h.len, e2, show k + i - k - i = 0 by omega, List.set_cons_zero]
    simp
  · rw [List.getElem?_append_right (by omega), hlt, List.getElem?_append_right (by rw [h.len]; omega), h.len, e2, show k + i - k - i = 0 by omega]
    rfl
theorem turned_end {l : List Int} {K i : Nat} {d : List Int} {b : Bool} (h : Turned l K i d b) (hB : isB l) (h4 : i ≤ 4) : (moreP 0 l == moreP 0 (l.take K ++ (d ++ l.drop (K + i)))) = b := by
  have hl : l = l.take K ++ ((l.drop K).take i ++ l.drop (K + i)) := by
    rw [show l.drop (K + i) = (l.drop K).drop i by rw [List.drop_drop], List.take_append_drop, List.take_append_drop]
  have he : d.length = ((l.drop K).take i).length := by rw [h.len, List.length_take, List.length_drop]; have := h.fits; omega
  have ht := tells_is (a := l.take K) (c := l.drop (K + i)) h.byte ((hB.drop K).take' i) he (by rw [h.len]; exact h4)
  rw [← hl] at ht
  rw [h.same_, Bool.eq_iff_iff, beq_iff_eq, decide_eq_true_eq, ← ht]
  exact eq_comm
set_option maxHeartbeats 8000000 in
theorem tells_law {W : World} (P : P11 W) (a : Option Addr) (c n : Nat) (l : List Int) (at_ y0 y1 y2 y3 : Int) (ha : InB W a l) (hB : isB l) (hn : l.length = n) (hc : n ≤ c ∧ c ≤ 140737488351232) (h0 : a = none → c = 0 ∧ l = [])
    (hat : okInt at_) (hy0 : 0 ≤ y0 ∧ y0 ≤ 255) (hy1 : 0 ≤ y1 ∧ y1 ≤ 255) (hy2 : 0 ≤ y2 ∧ y2 ≤ 255) (hy3 : 0 ≤ y3 ∧ y3 ≤ 255) :
    Calls Tryd.prog 7 #[.slice a n c, .int .i64 at_, .agg #[.int .u8 y0, .int .u8 y1, .int .u8 y2, .int .u8 y3]] W fun e w' => e = .returned (.bool true) ∧ Below W.heap.size W w' := by
  have HP := Lib.hid (And.intro P (And.intro ha (And.intro hB (And.intro hn (And.intro h0 (And.intro hy0 (And.intro hy1 (And.intro hy2 hy3))))))))
  obtain ⟨hc1, hc2⟩ := hc
  unfold okInt at hat
  have hnl : l.length ≤ n := by omega
  have hnl2 : n ≤ l.length := by omega
  obtain ⟨t1, t2⟩ := hat
  clear P ha hB hn h0 hy0 hy1 hy2 hy3
  go_enter Tryd.func7, Tryd.ntmps7
  go_wp2_with fail
  refine (awake11_any HP.out.1 _ (below1 W _)).mono ?_
  rintro e w1 ⟨rfl, b1⟩
  have B1 := Lib.hid (below_then (below1 W _) b1)
  have Q1 := Lib.hid b1
  have HY : Hid (∀ w2, Below (W.heap.size + 1) (W.alloc (.cells #[.int .u8 y0, .int .u8 y1, .int .u8 y2, .int .u8 y3] 40)) w2 → ∀ (i : Nat) (y : Int), [y0, y1, y2, y3][i]? = some y → w2.cell? ⟨W.heap.size, i, none⟩ = some (.int .u8 y)) := Lib.hid fun w2 hb i y hy => by
    have hi := lt_of_get hy
    simp at hi
    have h := row_cells (row_then (heap_alloc_new W (.cells #[.int .u8 y0, .int .u8 y1, .int .u8 y2, .int .u8 y3] 40)) (w' := w2) (by simpa using hb)) i
    rw [h]
    rcases (by omega : i = 0 ∨ i = 1 ∨ i = 2 ∨ i = 3) with rfl | rfl | rfl | rfl <;> (injection hy with hy; subst hy; rfl)
  clear b1
  by_cases hz : n = 0
  · have hl0 : l = [] := List.eq_nil_of_length_eq_zero (by omega)
    have HZ := Lib.hid (show moreP 0 l = 0 by rw [hl0]; kernel_rfl)
    subst hz
    clear hl0
    go_wp2_with fail
    refine (HP.out.1.sum a c 0 l w1 B1.out (HP.out.2.1.then_ B1.out) HP.out.2.2.1 HP.out.2.2.2.1 (by omega)).mono ?_
    rintro e w2 ⟨rfl, b2⟩
    rw [HZ.out]
    go_wp2_with fail
    go_ret
    exact ⟨rfl, below_then B1.out b2⟩
  have hz1 : 0 < n := by omega
  have hb0 : (((n : Int)) == 0) = false := by simp; omega
  clear hz
  by_cases hneg : at_ < 0
  · obtain ⟨A, hA⟩ := Int.eq_ofNat_of_zero_le (show 0 ≤ -(at_ + 1) by omega)
    have HAe := Lib.hid hA
    have hAm : A ≤ 9223372036854775807 := by omega
    have hN : -((at_ + 1).tmod (n : Int)) = (A : Int) % (n : Int) := by rw [show at_ + 1 = -(A : Int) by omega, Int.neg_tmod, Int.neg_neg, Int.tmod_eq_emod_of_nonneg (by omega)]
    clear hA
    have hK0 : 0 ≤ (A : Int) % (n : Int) ∧ (A : Int) % (n : Int) < n := ⟨Int.emod_nonneg _ (by omega), Int.emod_lt_of_pos _ (by omega)⟩
    obtain ⟨K, hK⟩ := Int.eq_ofNat_of_zero_le hK0.1
    rw [hK] at hK0
    have hKn : K < n := by omega
    rw [hK] at hN
    have HKe := Lib.hid hN
    clear hK hK0 hN
    go_wp2_with (at_builtin; rw [HKe.out]; refine apR rfl (.tmp 37) (.tmp 38) rfl w1.heap.size _ _ rfl (OwnB.lit w1 [] (by decide)) a n c l rfl HP.out.2.2.2.1 (HP.out.2.1.then_ (B1.out.alloc B1.out.size _)) HP.out.2.2.2.2.1 (by simp only [List.length_nil]; omega) (below1 _ _).size ?_; intro u1 w2 hg1; have G1 := Lib.hid hg1; have B2 := Lib.hid (hg1.below (OwnB.lit w1 [] (by decide)) (B1.out.alloc B1.out.size _) B1.out.size (below1 _ _).size); clear hg1)
    have G2 := Lib.hid (show OwnB w2 w1.heap.size u1 l by have h := G1.out.own; rw [List.nil_append] at h; exact h)
    obtain ⟨g, cp, eu, -⟩ := G2.out.form (by omega)
    rw [HP.out.2.2.2.1] at eu
    subst eu
    have hgl : W.heap.size < g := by have h1 := (G2.out.block g rfl).1; have h2 := Q1.out.size; simp at h2; omega
    have hgn : ¬ W.heap.size = g := by omega
    have Q2 := Lib.hid (G1.out.below (OwnB.lit w1 [] (by decide)) (Q1.out.alloc Q1.out.size _) Q1.out.size (below1 _ _).size)
    go_loopw [10, 11] (fun same i wr => ∃ (i' : Nat) (d : List Int) (b : Bool), i' ≤ 4 ∧ i = .int .i64 (i' : Int) ∧ same = .bool b ∧ K + i' ≤ n ∧ Hid (Turned l K i' d b ∧ OwnB wr w1.heap.size (.slice (some ⟨g, 0, none⟩) n cp) (l.take K ++ (d ++ l.drop (K + i'))) ∧ Below W.heap.size W wr ∧ Below (W.heap.size + 1) (W.alloc (.cells #[.int .u8 y0, .int .u8 y1, .int .u8 y2, .int .u8 y3] 40)) wr)) (fun _ i _ => 4 - (intOf i).toNat)
    case atStart => exact ⟨0, [], true, by omega, rfl, rfl, by omega, ⟨rfl, isB.nil, by simp, by omega⟩, by have h := G2.out; simpa using h, B2.out, by have h := Q2.out; simpa using h⟩
    case round =>
      obtain ⟨i', d, b, hi4, rfl, rfl, hKi, HK⟩ := hrel
      by_cases hlt : i' < 4 ∧ K + i' < n
      · obtain ⟨hl1, hl2⟩ := hlt
        obtain ⟨z, hz⟩ : ∃ z, l[K + i']? = some z := ⟨_, List.getElem?_eq_getElem (by rw [HP.out.2.2.2.1]; exact hl2)⟩
        obtain ⟨y, hy⟩ : ∃ y, [y0, y1, y2, y3][i']? = some y := ⟨_, List.getElem?_eq_getElem (by simpa using hl1)⟩
        have hyb : 0 ≤ y ∧ y ≤ 255 := by
          have hm := List.mem_of_getElem? hy
          simp only [List.mem_cons, List.not_mem_nil, or_false] at hm
          rcases hm with rfl | rfl | rfl | rfl
          · exact HP.out.2.2.2.2.2.1
          · exact HP.out.2.2.2.2.2.2.1
          · exact HP.out.2.2.2.2.2.2.2.1
          · exact HP.out.2.2.2.2.2.2.2.2
        have hzb := HP.out.2.2.1.at' hz
        have HN := Lib.hid (HK.1.next hz hzb hyb)
        obtain ⟨z0, f0⟩ := HK.2.1.at_ HN.out.2.2
        have y00 := HY.out _ HK.2.2.2 i' y hy
        have j1 : (i' : Int) < 4 := by omega
        have j2 : (K : Int) + (i' : Int) < (n : Int) := by omega
        have j3 : (0 : Int) ≤ (K : Int) + (i' : Int) := by omega
        have hyy : ((y : Int) == 0) = decide (y = 0) := by by_cases h : y = 0 <;> simp [h]
        have HD := Lib.hid hyy
        clear hz hy hyb hzb
        cases b
        · go_wp2_with fail
          have s1 : IntKind.i64.wrap ((K : Int) + (i' : Int)) = (K : Int) + (i' : Int) := by rw [IntKind.wrap_i64]; omega
          have s2 : ((K : Int) + (i' : Int)).toNat = K + i' := by omega
          go_still_tail 15, (by kernel_rfl)
          clear s1 s2
          change wpList _ _ _ _ _ wr.drew
          go_wp2_with fail
          go_roundw
          case rel =>
            have h := HK.2.1.set (K + i') (bits .xor .u8 z y)
            rw [HN.out.2.1] at h
            exact ⟨i' + 1, d ++ [bits .xor .u8 z y], _, by omega, by go_num, rfl, by omega, HN.out.1, h.1.drew, (HK.2.2.1.setCell (p := ⟨g, K + i', none⟩) (Nat.le_of_lt hgl) _).drew, (HK.2.2.2.setCell (p := ⟨g, K + i', none⟩) hgl _).drew⟩
          case measure => simp [intOf]; omega
        · go_wp2_with fail
          have s1 : IntKind.i64.wrap ((K : Int) + (i' : Int)) = (K : Int) + (i' : Int) := by rw [IntKind.wrap_i64]; omega
          have s2 : ((K : Int) + (i' : Int)).toNat = K + i' := by omega
          go_still_tail 15, (by kernel_rfl)
          clear s1 s2
          change wpList _ _ _ _ _ wr.drew
          go_wp2_with fail
          go_roundw
          case rel =>
            have h := HK.2.1.set (K + i') (bits .xor .u8 z y)
            rw [HN.out.2.1] at h
            exact ⟨i' + 1, d ++ [bits .xor .u8 z y], _, by omega, by go_num, rfl, by omega, HN.out.1, h.1.drew, (HK.2.2.1.setCell (p := ⟨g, K + i', none⟩) (Nat.le_of_lt hgl) _).drew, (HK.2.2.2.setCell (p := ⟨g, K + i', none⟩) hgl _).drew⟩
          case measure => simp [intOf]; omega
      · have hbb : isB (l.take K ++ (d ++ l.drop (K + i'))) := (HP.out.2.2.1.take' K).append (HK.1.byte.append (HP.out.2.2.1.drop _))
        have hll : (l.take K ++ (d ++ l.drop (K + i'))).length = n := by rw [List.length_append, List.length_append, HK.1.len, List.length_take, List.length_drop]; omega
        have HE := Lib.hid (And.intro (turned_end HK.1 HP.out.2.2.1 hi4) (And.intro hbb (And.intro hll (And.intro HK.2.1.inB HK.2.2.1))))
        clear hbb hll HK
        by_cases h4 : i' < 4
        · have h5 : n ≤ K + i' := by omega
          clear hlt
          go_wp2_with fail
          refine (HP.out.1.sum a c n l _ HE.out.2.2.2.2 (HP.out.2.1.then_ HE.out.2.2.2.2) HP.out.2.2.1 HP.out.2.2.2.1 (by omega)).mono ?_
          rintro e w4 ⟨rfl, b4⟩
          have B4 := Lib.hid (below_then HE.out.2.2.2.2 b4)
          have I4 := Lib.hid (HE.out.2.2.2.1.then_ b4)
          clear b4
          go_wp2_with fail
          refine (HP.out.1.sum _ _ n _ _ B4.out I4.out HE.out.2.1 HE.out.2.2.1 (by omega)).mono ?_
          rintro e w5 ⟨rfl, b5⟩
          have B5 := Lib.hid (below_then B4.out b5)
          clear b5
          go_wp2_with fail
          go_ret
          exact ⟨ret_bool (by rw [HE.out.1]; simp), B5.out⟩
        · clear hlt
          go_wp2_with fail
          refine (HP.out.1.sum a c n l _ HE.out.2.2.2.2 (HP.out.2.1.then_ HE.out.2.2.2.2) HP.out.2.2.1 HP.out.2.2.2.1 (by omega)).mono ?_
          rintro e w4 ⟨rfl, b4⟩
          have B4 := Lib.hid (below_then HE.out.2.2.2.2 b4)
          have I4 := Lib.hid (HE.out.2.2.2.1.then_ b4)
          clear b4
          go_wp2_with fail
          refine (HP.out.1.sum _ _ n _ _ B4.out I4.out HE.out.2.1 HE.out.2.2.1 (by omega)).mono ?_
          rintro e w5 ⟨rfl, b5⟩
          have B5 := Lib.hid (below_then B4.out b5)
          clear b5
          go_wp2_with fail
          go_ret
          exact ⟨ret_bool (by rw [HE.out.1]; simp), B5.out⟩
  · obtain ⟨A, rfl⟩ := Int.eq_ofNat_of_zero_le (show 0 ≤ at_ by omega)
    have hK0 : 0 ≤ (A : Int) % (n : Int) ∧ (A : Int) % (n : Int) < n := ⟨Int.emod_nonneg _ (by omega), Int.emod_lt_of_pos _ (by omega)⟩
    obtain ⟨K, hK⟩ := Int.eq_ofNat_of_zero_le hK0.1
    rw [hK] at hK0
    have hKn : K < n := by omega
    have HKe := Lib.hid hK
    clear hK hK0
    go_wp2_with (at_builtin; rw [HKe.out]; refine apR rfl (.tmp 37) (.tmp 38) rfl w1.heap.size _ _ rfl (OwnB.lit w1 [] (by decide)) a n c l rfl HP.out.2.2.2.1 (HP.out.2.1.then_ (B1.out.alloc B1.out.size _)) HP.out.2.2.2.2.1 (by simp only [List.length_nil]; omega) (below1 _ _).size ?_; intro u1 w2 hg1; have G1 := Lib.hid hg1; have B2 := Lib.hid (hg1.below (OwnB.lit w1 [] (by decide)) (B1.out.alloc B1.out.size _) B1.out.size (below1 _ _).size); clear hg1)
    have G2 := Lib.hid (show OwnB w2 w1.heap.size u1 l by have h := G1.out.own; rw [List.nil_append] at h; exact h)
    obtain ⟨g, cp, eu, -⟩ := G2.out.form (by omega)
    rw [HP.out.2.2.2.1] at eu
    subst eu
    have hgl : W.heap.size < g := by have h1 := (G2.out.block g rfl).1; have h2 := Q1.out.size; simp at h2; omega
    have hgn : ¬ W.heap.size = g := by omega
    have Q2 := Lib.hid (G1.out.below (OwnB.lit w1 [] (by decide)) (Q1.out.alloc Q1.out.size _) Q1.out.size (below1 _ _).size)
    go_loopw [10, 11] (fun same i wr => ∃ (i' : Nat) (d : List Int) (b : Bool), i' ≤ 4 ∧ i = .int .i64 (i' : Int) ∧ same = .bool b ∧ K + i' ≤ n ∧ Hid (Turned l K i' d b ∧ OwnB wr w1.heap.size (.slice (some ⟨g, 0, none⟩) n cp) (l.take K ++ (d ++ l.drop (K + i'))) ∧ Below W.heap.size W wr ∧ Below (W.heap.size + 1) (W.alloc (.cells #[.int .u8 y0, .int .u8 y1, .int .u8 y2, .int .u8 y3] 40)) wr)) (fun _ i _ => 4 - (intOf i).toNat)
    case atStart => exact ⟨0, [], true, by omega, rfl, rfl, by omega, ⟨rfl, isB.nil, by simp, by omega⟩, by have h := G2.out; simpa using h, B2.out, by have h := Q2.out; simpa using h⟩
    case round =>
      obtain ⟨i', d, b, hi4, rfl, rfl, hKi, HK⟩ := hrel
      by_cases hlt : i' < 4 ∧ K + i' < n
      · obtain ⟨hl1, hl2⟩ := hlt
        obtain ⟨z, hz⟩ : ∃ z, l[K + i']? = some z := ⟨_, List.getElem?_eq_getElem (by rw [HP.out.2.2.2.1]; exact hl2)⟩
        obtain ⟨y, hy⟩ : ∃ y, [y0, y1, y2, y3][i']? = some y := ⟨_, List.getElem?_eq_getElem (by simpa using hl1)⟩
        have hyb : 0 ≤ y ∧ y ≤ 255 := by
          have hm := List.mem_of_getElem? hy
          simp only [List.mem_cons, List.not_mem_nil, or_false] at hm
          rcases hm with rfl | rfl | rfl | rfl
          · exact HP.out.2.2.2.2.2.1
          · exact HP.out.2.2.2.2.2.2.1
          · exact HP.out.2.2.2.2.2.2.2.1
          · exact HP.out.2.2.2.2.2.2.2.2
        have hzb := HP.out.2.2.1.at' hz
        have HN := Lib.hid (HK.1.next hz hzb hyb)
        obtain ⟨z0, f0⟩ := HK.2.1.at_ HN.out.2.2
        have y00 := HY.out _ HK.2.2.2 i' y hy
        have j1 : (i' : Int) < 4 := by omega
        have j2 : (K : Int) + (i' : Int) < (n : Int) := by omega
        have j3 : (0 : Int) ≤ (K : Int) + (i' : Int) := by omega
        have hyy : ((y : Int) == 0) = decide (y = 0) := by by_cases h : y = 0 <;> simp [h]
        have HD := Lib.hid hyy
        clear hz hy hyb hzb
        cases b
        · go_wp2_with fail
          have s1 : IntKind.i64.wrap ((K : Int) + (i' : Int)) = (K : Int) + (i' : Int) := by rw [IntKind.wrap_i64]; omega
          have s2 : ((K : Int) + (i' : Int)).toNat = K + i' := by omega
          go_still_tail 15, (by kernel_rfl)
          clear s1 s2
          change wpList _ _ _ _ _ wr.drew
          go_wp2_with fail
          go_roundw
          case rel =>
            have h := HK.2.1.set (K + i') (bits .xor .u8 z y)
            rw [HN.out.2.1] at h
            exact ⟨i' + 1, d ++ [bits .xor .u8 z y], _, by omega, by go_num, rfl, by omega, HN.out.1, h.1.drew, (HK.2.2.1.setCell (p := ⟨g, K + i', none⟩) (Nat.le_of_lt hgl) _).drew, (HK.2.2.2.setCell (p := ⟨g, K + i', none⟩) hgl _).drew⟩
          case measure => simp [intOf]; omega
        · go_wp2_with fail
          have s1 : IntKind.i64.wrap ((K : Int) + (i' : Int)) = (K : Int) + (i' : Int) := by rw [IntKind.wrap_i64]; omega
          have s2 : ((K : Int) + (i' : Int)).toNat = K + i' := by omega
          go_still_tail 15, (by kernel_rfl)
          clear s1 s2
          change wpList _ _ _ _ _ wr.drew
          go_wp2_with fail
          go_roundw
          case rel =>
            have h := HK.2.1.set (K + i') (bits .xor .u8 z y)
            rw [HN.out.2.1] at h
            exact ⟨i' + 1, d ++ [bits .xor .u8 z y], _, by omega, by go_num, rfl, by omega, HN.out.1, h.1.drew, (HK.2.2.1.setCell (p := ⟨g, K + i', none⟩) (Nat.le_of_lt hgl) _).drew, (HK.2.2.2.setCell (p := ⟨g, K + i', none⟩) hgl _).drew⟩
          case measure => simp [intOf]; omega
      · have hbb : isB (l.take K ++ (d ++ l.drop (K + i'))) := (HP.out.2.2.1.take' K).append (HK.1.byte.append (HP.out.2.2.1.drop _))
        have hll : (l.take K ++ (d ++ l.drop (K + i'))).length = n := by rw [List.length_append, List.length_append, HK.1.len, List.length_take, List.length_drop]; omega
        have HE := Lib.hid (And.intro (turned_end HK.1 HP.out.2.2.1 hi4) (And.intro hbb (And.intro hll (And.intro HK.2.1.inB HK.2.2.1))))
        clear hbb hll HK
        by_cases h4 : i' < 4
        · have h5 : n ≤ K + i' := by omega
          clear hlt
          go_wp2_with fail
          refine (HP.out.1.sum a c n l _ HE.out.2.2.2.2 (HP.out.2.1.then_ HE.out.2.2.2.2) HP.out.2.2.1 HP.out.2.2.2.1 (by omega)).mono ?_
          rintro e w4 ⟨rfl, b4⟩
          have B4 := Lib.hid (below_then HE.out.2.2.2.2 b4)
          have I4 := Lib.hid (HE.out.2.2.2.1.then_ b4)
          clear b4
          go_wp2_with fail
          refine (HP.out.1.sum _ _ n _ _ B4.out I4.out HE.out.2.1 HE.out.2.2.1 (by omega)).mono ?_
          rintro e w5 ⟨rfl, b5⟩
          have B5 := Lib.hid (below_then B4.out b5)
          clear b5
          go_wp2_with fail
          go_ret
          exact ⟨ret_bool (by rw [HE.out.1]; simp), B5.out⟩
        · clear hlt
          go_wp2_with fail
          refine (HP.out.1.sum a c n l _ HE.out.2.2.2.2 (HP.out.2.1.then_ HE.out.2.2.2.2) HP.out.2.2.1 HP.out.2.2.2.1 (by omega)).mono ?_
          rintro e w4 ⟨rfl, b4⟩
          have B4 := Lib.hid (below_then HE.out.2.2.2.2 b4)
          have I4 := Lib.hid (HE.out.2.2.2.1.then_ b4)
          clear b4
          go_wp2_with fail
          refine (HP.out.1.sum _ _ n _ _ B4.out I4.out HE.out.2.1 HE.out.2.2.1 (by omega)).mono ?_
          rintro e w5 ⟨rfl, b5⟩
          have B5 := Lib.hid (below_then B4.out b5)
          clear b5
          go_wp2_with fail
          go_ret
          exact ⟨ret_bool (by rw [HE.out.1]; simp), B5.out⟩
end Go.Proofs.YtocpbkmflihcnaaDoor
