/- The law PageTells over the contracts. No statement is proved here. -/
import Derived.Test.YtlpnhfceblbllaaDoorGLaw1
namespace Go.Proofs.YtlpnhfceblbllaaDoor
open Go.RowKit
set_option maxRecDepth 100000

set_option maxHeartbeats 8000000 in
theorem ptells_law {W : World} (P : P12 W) (number kind : Int) (h1 : okInt number) (h2 : okInt kind) (a : Option Addr) (c n : Nat) (l : List Int) (at_ y0 y1 y2 y3 : Int) (ha : InB W a l) (hB : isB l) (hn : l.length = n) (hc : n ≤ c ∧ c ≤ 140737488351232) (h0 : a = none → c = 0)
    (hat : okInt at_) (hy0 : 0 ≤ y0 ∧ y0 ≤ 255) (hy1 : 0 ≤ y1 ∧ y1 ≤ 255) (hy2 : 0 ≤ y2 ∧ y2 ≤ 255) (hy3 : 0 ≤ y3 ∧ y3 ≤ 255) :
    Calls Tryd.prog 6 #[.int .i64 number, .int .i64 kind, .slice a n c, .int .i64 at_, .agg #[.int .u8 y0, .int .u8 y1, .int .u8 y2, .int .u8 y3]] W fun e w' => e = .returned (.bool true) ∧ Below W.heap.size W w' := by
  have HP := Lib.hid (And.intro P (And.intro h1 (And.intro h2 (And.intro ha (And.intro hB (And.intro hn (fun e => ⟨h0 e, List.eq_nil_of_length_eq_zero (by have := h0 e; omega)⟩ : a = none → c = 0 ∧ l = [])))))))
  obtain ⟨hc1, hc2⟩ := hc
  have HY := Lib.hid (And.intro hy0 (And.intro hy1 (And.intro hy2 hy3)))
  unfold okInt at hat
  obtain ⟨t1, t2⟩ := hat
  clear P h1 h2 ha hB hn h0 hy0 hy1 hy2 hy3
  go_enter Tryd.func6, Tryd.ntmps6
  go_wp2_with fail
  refine (awake12_any HP.out.1 _ (below1 W _)).mono ?_
  rintro e w1 ⟨rfl, b1⟩
  have B1 := Lib.hid (below_then (below1 W _) b1)
  have Q1 := Lib.hid b1
  have HYC : Hid (∀ w2, Below (W.heap.size + 1) (W.alloc (.cells #[.int .u8 y0, .int .u8 y1, .int .u8 y2, .int .u8 y3] 50)) w2 → ∀ (i : Nat) (y : Int), [y0, y1, y2, y3][i]? = some y → w2.cell? ⟨W.heap.size, i, none⟩ = some (.int .u8 y)) := Lib.hid fun w2 hb i y hy => by
    have hi := lt_of_get hy
    simp at hi
    have h := row_cells (row_then (heap_alloc_new W (.cells #[.int .u8 y0, .int .u8 y1, .int .u8 y2, .int .u8 y3] 50)) (w' := w2) (by simpa using hb)) i
    rw [h]
    rcases (by omega : i = 0 ∨ i = 1 ∨ i = 2 ∨ i = 3) with rfl | rfl | rfl | rfl <;> (injection hy with hy; subst hy; rfl)
  clear b1
  go_wp2_with fail
  refine (HP.out.1.make number kind a n c l w1 B1.out HP.out.2.1 HP.out.2.2.1 (HP.out.2.2.2.1.then_ B1.out) HP.out.2.2.2.2.1 HP.out.2.2.2.2.2.1 hc1 (Nat.le_trans hc2 (by decide)) HP.out.2.2.2.2.2.2).mono ?_
  rintro e w2 ⟨v, rfl, o2, b2⟩
  have B2 := Lib.hid (below_then B1.out b2)
  have Q2 := Lib.hid (Q1.out.trans (b2.mono (by have := Q1.out.size; simpa using this)))
  cases ho : okG number kind n
  · have HE : Hid (makeE number kind l.length = 1) := Lib.hid (by unfold makeE; rw [HP.out.2.2.2.2.2.1, ho]; rfl)
    rw [HE.out]
    clear o2 b2 ho
    go_wp2_with fail
    go_ret
    exact ⟨rfl, B2.out⟩
  have HO := Lib.hid ho
  have hE : makeE number kind l.length = 0 := by unfold makeE; rw [HP.out.2.2.2.2.2.1, ho]; rfl
  have hL : makeL number kind l = pageL number kind l := by unfold makeL; rw [HP.out.2.2.2.2.2.1, ho, if_pos rfl]
  rw [hL] at o2
  rw [hE]
  obtain ⟨pg, hpg⟩ : ∃ pg, pg = pageL number kind l := ⟨_, rfl⟩
  rw [← hpg] at o2
  have hpl : pg.length = 4096 := by rw [hpg]; exact pageL_len (by rw [HP.out.2.2.2.2.2.1]; exact (okG_yes ho).2.2.2.2)
  have HG := Lib.hid (show openE pg number = 0 ∧ isB pg ∧ pg.length = 4096 by
    refine ⟨?_, ?_, hpl⟩
    · rw [hpg, (open_made (by rw [HP.out.2.2.2.2.2.1]; exact ho) HP.out.2.2.2.2.1 number).1, if_pos rfl]
    · rw [hpg]; exact pageL_byte HP.out.2.2.2.2.1)
  obtain ⟨g, cp, rfl, hcp⟩ := o2.form (by omega)
  have hcm : cp ≤ maxLen := by obtain ⟨a2, c2, e2, -, -, -, h2⟩ := o2.shape; injection e2 with _ _ e3; subst e3; exact h2
  rw [hpl] at o2 hcp ⊢
  have O2 := Lib.hid o2
  have hg1 : w1.heap.size ≤ g := (o2.block g rfl).1
  have hW1 : W.heap.size < w1.heap.size := by have := Q1.out.size; simp at this; omega
  clear o2 b2 ho hE hL hpg hpl
  by_cases hneg : at_ < 0
  · obtain ⟨A, hA⟩ := Int.eq_ofNat_of_zero_le (show 0 ≤ -(at_ + 1) by omega)
    go_wp2_with fail
    rw [show (A : Int) % 4096 = ((A % 4096 : Nat) : Int) by omega]
    have hK : A % 4096 < 4096 := Nat.mod_lt _ (by omega)
    generalize A % 4096 = K at hK ⊢
    have E3 := Lib.hid (show openE (pg.take K) number = 122 by unfold openE; rw [if_neg (by rw [List.length_take, HG.out.2.2]; omega)])
    refine (HP.out.1.opens number _ K cp (pg.take K) w2 B2.out HP.out.2.1 (O2.out.inB.take_ K) (HG.out.2.1.take' K) (by rw [List.length_take, HG.out.2.2]; omega) (by omega) hcm (fun e => by cases e)).mono ?_
    rintro e w3 ⟨v3, rfl, o3, b3⟩
    have k3 : openK (pg.take K) number = 0 := by unfold openK; rw [E3.out]; rfl
    rw [E3.out, k3]
    have B3 := Lib.hid (below_then B2.out b3)
    have Q3 := Lib.hid (Q2.out.trans (b3.mono (by have h1 := Q2.out.size; simpa using h1)))
    have O3 := Lib.hid (O2.out.then_ b3)
    have hg3 : g < w3.heap.size := (O3.out.block _ rfl).2
    clear b3 o3 k3
    go_wp2_with first
      | (at_builtin; refine apR rfl (.tmp 67) (.tmp 68) rfl w3.heap.size _ _ rfl (OwnB.lit w3 [] (by decide)) (some ⟨g, 0, none⟩) 4096 cp pg rfl HG.out.2.2 (O3.out.inB.then_ (below1 w3 _)) (fun e => (by cases e)) (by simp only [List.length_nil]; omega) (below1 w3 _).size ?_; intro u4 w4 hg4; have b4 := hg4.below (OwnB.lit w3 [] (by decide)) (below1 w3 _) (Nat.le_refl _) (below1 w3 _).size; have G4 : Hid (OwnB w4 w3.heap.size u4 pg ∧ Below w3.heap.size w3 w4) := Lib.hid ⟨(by have h := hg4.own; rw [List.nil_append] at h; exact h), b4⟩; clear hg4 b4)
      | (at_builtin; go_loud (refine apL _ rfl (.tmp 69) (.tmp 70) rfl w3.heap.size _ _ rfl G4.out.1 [0] _ 1 1 rfl rfl rfl rfl (by rw [HG.out.2.2]; omega) G4.out.2.size ?_; intro u5 w5 hg5; have G5 : Hid (OwnB w5 w3.heap.size u5 (pg ++ [0]) ∧ Below w3.heap.size w3 w5) := Lib.hid ⟨hg5.own, hg5.below G4.out.1 G4.out.2 (Nat.le_refl _) G4.out.2.size⟩; obtain ⟨a5, c5, hu5, i5, n5, l5, m5⟩ := G5.out.1.shape; subst hu5; have hp5 : (pg ++ [0]).length = 4097 := (by rw [List.length_append, HG.out.2.2]; rfl); rw [hp5] at l5 ⊢; have I5 := Lib.hid (And.intro i5 (And.intro hp5 (And.intro n5 m5))); clear hg5 i5 n5 m5 hp5))
    have B5 := Lib.hid (below_then B3.out G5.out.2)
    have O5 := Lib.hid (O3.out.then_ G5.out.2)
    have Q5 := Lib.hid (Q3.out.trans (G5.out.2.mono (by have h1 := Q3.out.size; simpa using h1)))
    have E6 := Lib.hid (show openE (pg ++ [0]) number = 122 by unfold openE; rw [if_neg (by rw [I5.out.2.1]; omega)])
    refine (HP.out.1.opens number _ 4097 c5 (pg ++ [0]) w5 B5.out HP.out.2.1 I5.out.1 (HG.out.2.1.append (isB_of (by decide))) I5.out.2.1 l5 I5.out.2.2.2 I5.out.2.2.1).mono ?_
    rintro e w6 ⟨v6, rfl, o6, b6⟩
    have k6 : openK (pg ++ [0]) number = 0 := by unfold openK; rw [E6.out]; rfl
    rw [E6.out, k6]
    have B6 := Lib.hid (below_then B5.out b6)
    have Q6 := Lib.hid (Q5.out.trans (b6.mono (by have h1 := Q5.out.size; simpa using h1)))
    have O6 := Lib.hid (O5.out.then_ b6)
    clear b6 o6 k6
    go_wp2_with fail
    have hgl : W.heap.size < g := by omega
    have hgn : ¬ W.heap.size = g := by omega
    go_loopw [22, 23] (fun same i wr => ∃ (i' : Nat) (d : List Int) (b : Bool), i' ≤ 4 ∧ i = .int .i64 (i' : Int) ∧ same = .bool b ∧ K + i' ≤ 4096 ∧ (4 ≤ K ∨ K + i' ≤ 4) ∧ Hid (Turned pg K i' d b ∧ OwnB wr w1.heap.size (.slice (some ⟨g, 0, none⟩) 4096 cp) (pg.take K ++ (d ++ pg.drop (K + i'))) ∧ Below W.heap.size W wr ∧ Below (W.heap.size + 1) (W.alloc (.cells #[.int .u8 y0, .int .u8 y1, .int .u8 y2, .int .u8 y3] 50)) wr)) (fun _ i _ => 4 - (intOf i).toNat)
    case atStart => exact ⟨0, [], true, by omega, rfl, rfl, by omega, by omega, ⟨rfl, isB.nil, by simp, by rw [HG.out.2.2]; omega⟩, by have h := O6.out; simpa using h, B6.out, by have h := Q6.out; simpa using h⟩
    case round =>
      obtain ⟨i', d, b, hi4, rfl, rfl, hKi, hK4, HK⟩ := hrel
      replace HK := Lib.hid HK
      have HE := Lib.hid (show (openE (pg.take K ++ (d ++ pg.drop (K + i'))) number == 0) = b ∧ isB (pg.take K ++ (d ++ pg.drop (K + i'))) ∧ (pg.take K ++ (d ++ pg.drop (K + i'))).length = 4096 ∧ True ∧ InB wr (some ⟨g, 0, none⟩) (pg.take K ++ (d ++ pg.drop (K + i'))) ∧ Below W.heap.size W wr by
        refine ⟨open_turned HG.out.1 HG.out.2.1 HK.out.1 hi4 hK4, (HG.out.2.1.take' K).append (HK.out.1.byte.append (HG.out.2.1.drop _)), ?_, trivial, HK.out.2.1.inB, HK.out.2.2.1⟩
        rw [List.length_append, List.length_append, HK.out.1.len, List.length_take, List.length_drop, HG.out.2.2]; omega)
      by_cases hlt : i' < 4 ∧ K + i' < 4096
      · obtain ⟨hl1, hl2⟩ := hlt
        have j1 : (i' : Int) < 4 := by omega
        have j2 : (K : Int) + (i' : Int) < 4096 := by omega
        have j3 : (0 : Int) ≤ (K : Int) + (i' : Int) := by omega
        by_cases hbr : K < 4 ∧ 4 ≤ K + i'
        · obtain ⟨hbr1, hbr2⟩ := hbr
          clear HK hK4
          go_wp2_with fail
          refine (HP.out.1.opens number _ 4096 cp _ _ HE.out.2.2.2.2.2 HP.out.2.1 HE.out.2.2.2.2.1 HE.out.2.1 HE.out.2.2.1 hcp hcm (fun e => by cases e)).mono ?_
          rintro e w7 ⟨v7, rfl, o7, b7⟩
          have B7 := Lib.hid (below_then HE.out.2.2.2.2.2 b7)
          have HX := Lib.hid HE.out.1
          generalize openE (pg.take K ++ (d ++ pg.drop (K + i'))) number = x at HX ⊢
          generalize openK (pg.take K ++ (d ++ pg.drop (K + i'))) number = y
          clear b7 o7
          go_wp2_with fail
          go_ret
          exact ⟨ret_bool (by rw [HX.out]; simp), B7.out⟩
        · obtain ⟨z, hz⟩ : ∃ z, pg[K + i']? = some z := ⟨_, List.getElem?_eq_getElem (by rw [HG.out.2.2]; exact hl2)⟩
          obtain ⟨y, hy⟩ : ∃ y, [y0, y1, y2, y3][i']? = some y := ⟨_, List.getElem?_eq_getElem (by simpa using hl1)⟩
          have hyb : 0 ≤ y ∧ y ≤ 255 := by
            have hm := List.mem_of_getElem? hy
            simp only [List.mem_cons, List.not_mem_nil, or_false] at hm
            rcases hm with rfl | rfl | rfl | rfl
            · exact HY.out.1
            · exact HY.out.2.1
            · exact HY.out.2.2.1
            · exact HY.out.2.2.2
          have hzb := HG.out.2.1.at' hz
          have HN := Lib.hid (HK.out.1.next hz hzb hyb)
          obtain ⟨z0, f0⟩ := HK.out.2.1.at_ HN.out.2.2
          have y00 := HYC.out _ HK.out.2.2.2 i' y hy
          have hyy : ((y : Int) == 0) = decide (y = 0) := by by_cases h : y = 0 <;> simp [h]
          have HD := Lib.hid hyy
          clear hz hy hyb hzb HE
          by_cases hk4 : K < 4
          · have hk5 : K + i' < 4 := by omega
            cases b
            · go_wp2_with fail
              have s1 : IntKind.i64.wrap ((K : Int) + (i' : Int)) = (K : Int) + (i' : Int) := by rw [IntKind.wrap_i64]; omega
              have s2 : ((K : Int) + (i' : Int)).toNat = K + i' := by omega
              go_still_tail 15, (by kernel_rfl)
              clear s1 s2
              change wpList _ _ _ _ _ wr.drew
              go_wp2_with fail
              go_roundw
              case rel =>
                have h := HK.out.2.1.set (K + i') (bits .xor .u8 z y)
                rw [HN.out.2.1] at h
                exact ⟨i' + 1, d ++ [bits .xor .u8 z y], _, by omega, by go_num, rfl, by omega, by omega, HN.out.1, h.1.drew, (HK.out.2.2.1.setCell (p := ⟨g, K + i', none⟩) (Nat.le_of_lt hgl) _).drew, (HK.out.2.2.2.setCell (p := ⟨g, K + i', none⟩) hgl _).drew⟩
              case measure => simp [intOf]; omega
            · go_wp2_with fail
              have s1 : IntKind.i64.wrap ((K : Int) + (i' : Int)) = (K : Int) + (i' : Int) := by rw [IntKind.wrap_i64]; omega
              have s2 : ((K : Int) + (i' : Int)).toNat = K + i' := by omega
              go_still_tail 15, (by kernel_rfl)
              clear s1 s2
              change wpList _ _ _ _ _ wr.drew
              go_wp2_with fail
              go_roundw
              case rel =>
                have h := HK.out.2.1.set (K + i') (bits .xor .u8 z y)
                rw [HN.out.2.1] at h
                exact ⟨i' + 1, d ++ [bits .xor .u8 z y], _, by omega, by go_num, rfl, by omega, by omega, HN.out.1, h.1.drew, (HK.out.2.2.1.setCell (p := ⟨g, K + i', none⟩) (Nat.le_of_lt hgl) _).drew, (HK.out.2.2.2.setCell (p := ⟨g, K + i', none⟩) hgl _).drew⟩
              case measure => simp [intOf]; omega
          · cases b
            · go_wp2_with fail
              have s1 : IntKind.i64.wrap ((K : Int) + (i' : Int)) = (K : Int) + (i' : Int) := by rw [IntKind.wrap_i64]; omega
              have s2 : ((K : Int) + (i' : Int)).toNat = K + i' := by omega
              go_still_tail 15, (by kernel_rfl)
              clear s1 s2
              change wpList _ _ _ _ _ wr.drew
              go_wp2_with fail
              go_roundw
              case rel =>
                have h := HK.out.2.1.set (K + i') (bits .xor .u8 z y)
                rw [HN.out.2.1] at h
                exact ⟨i' + 1, d ++ [bits .xor .u8 z y], _, by omega, by go_num, rfl, by omega, by omega, HN.out.1, h.1.drew, (HK.out.2.2.1.setCell (p := ⟨g, K + i', none⟩) (Nat.le_of_lt hgl) _).drew, (HK.out.2.2.2.setCell (p := ⟨g, K + i', none⟩) hgl _).drew⟩
              case measure => simp [intOf]; omega
            · go_wp2_with fail
              have s1 : IntKind.i64.wrap ((K : Int) + (i' : Int)) = (K : Int) + (i' : Int) := by rw [IntKind.wrap_i64]; omega
              have s2 : ((K : Int) + (i' : Int)).toNat = K + i' := by omega
              go_still_tail 15, (by kernel_rfl)
              clear s1 s2
              change wpList _ _ _ _ _ wr.drew
              go_wp2_with fail
              go_roundw
              case rel =>
                have h := HK.out.2.1.set (K + i') (bits .xor .u8 z y)
                rw [HN.out.2.1] at h
                exact ⟨i' + 1, d ++ [bits .xor .u8 z y], _, by omega, by go_num, rfl, by omega, by omega, HN.out.1, h.1.drew, (HK.out.2.2.1.setCell (p := ⟨g, K + i', none⟩) (Nat.le_of_lt hgl) _).drew, (HK.out.2.2.2.setCell (p := ⟨g, K + i', none⟩) hgl _).drew⟩
              case measure => simp [intOf]; omega
      · clear HK
        by_cases h4 : i' < 4
        · have h5 : K + i' = 4096 := by omega
          clear hlt
          go_wp2_with fail
          refine (HP.out.1.opens number _ 4096 cp _ _ HE.out.2.2.2.2.2 HP.out.2.1 HE.out.2.2.2.2.1 HE.out.2.1 HE.out.2.2.1 hcp hcm (fun e => by cases e)).mono ?_
          rintro e w7 ⟨v7, rfl, o7, b7⟩
          have B7 := Lib.hid (below_then HE.out.2.2.2.2.2 b7)
          have HX := Lib.hid HE.out.1
          generalize openE (pg.take K ++ (d ++ pg.drop (K + i'))) number = x at HX ⊢
          generalize openK (pg.take K ++ (d ++ pg.drop (K + i'))) number = y
          clear b7 o7
          go_wp2_with fail
          go_ret
          exact ⟨ret_bool (by rw [HX.out]; simp), B7.out⟩
        · have h5 : i' = 4 := by omega
          clear hlt
          go_wp2_with fail
          refine (HP.out.1.opens number _ 4096 cp _ _ HE.out.2.2.2.2.2 HP.out.2.1 HE.out.2.2.2.2.1 HE.out.2.1 HE.out.2.2.1 hcp hcm (fun e => by cases e)).mono ?_
          rintro e w7 ⟨v7, rfl, o7, b7⟩
          have B7 := Lib.hid (below_then HE.out.2.2.2.2.2 b7)
          have HX := Lib.hid HE.out.1
          generalize openE (pg.take K ++ (d ++ pg.drop (K + i'))) number = x at HX ⊢
          generalize openK (pg.take K ++ (d ++ pg.drop (K + i'))) number = y
          clear b7 o7
          go_wp2_with fail
          go_ret
          exact ⟨ret_bool (by rw [HX.out]; simp), B7.out⟩
  · obtain ⟨A, rfl⟩ := Int.eq_ofNat_of_zero_le (show 0 ≤ at_ by omega)
    go_wp2_with fail
    rw [show (A : Int) % 4096 = ((A % 4096 : Nat) : Int) by omega]
    have hK : A % 4096 < 4096 := Nat.mod_lt _ (by omega)
    generalize A % 4096 = K at hK ⊢
    have E3 := Lib.hid (show openE (pg.take K) number = 122 by unfold openE; rw [if_neg (by rw [List.length_take, HG.out.2.2]; omega)])
    refine (HP.out.1.opens number _ K cp (pg.take K) w2 B2.out HP.out.2.1 (O2.out.inB.take_ K) (HG.out.2.1.take' K) (by rw [List.length_take, HG.out.2.2]; omega) (by omega) hcm (fun e => by cases e)).mono ?_
    rintro e w3 ⟨v3, rfl, o3, b3⟩
    have k3 : openK (pg.take K) number = 0 := by unfold openK; rw [E3.out]; rfl
    rw [E3.out, k3]
    have B3 := Lib.hid (below_then B2.out b3)
    have Q3 := Lib.hid (Q2.out.trans (b3.mono (by have h1 := Q2.out.size; simpa using h1)))
    have O3 := Lib.hid (O2.out.then_ b3)
    have hg3 : g < w3.heap.size := (O3.out.block _ rfl).2
    clear b3 o3 k3
    go_wp2_with first
      | (at_builtin; refine apR rfl (.tmp 67) (.tmp 68) rfl w3.heap.size _ _ rfl (OwnB.lit w3 [] (by decide)) (some ⟨g, 0, none⟩) 4096 cp pg rfl HG.out.2.2 (O3.out.inB.then_ (below1 w3 _)) (fun e => (by cases e)) (by simp only [List.length_nil]; omega) (below1 w3 _).size ?_; intro u4 w4 hg4; have b4 := hg4.below (OwnB.lit w3 [] (by decide)) (below1 w3 _) (Nat.le_refl _) (below1 w3 _).size; have G4 : Hid (OwnB w4 w3.heap.size u4 pg ∧ Below w3.heap.size w3 w4) := Lib.hid ⟨(by have h := hg4.own; rw [List.nil_append] at h; exact h), b4⟩; clear hg4 b4)
      | (at_builtin; go_loud (refine apL _ rfl (.tmp 69) (.tmp 70) rfl w3.heap.size _ _ rfl G4.out.1 [0] _ 1 1 rfl rfl rfl rfl (by rw [HG.out.2.2]; omega) G4.out.2.size ?_; intro u5 w5 hg5; have G5 : Hid (OwnB w5 w3.heap.size u5 (pg ++ [0]) ∧ Below w3.heap.size w3 w5) := Lib.hid ⟨hg5.own, hg5.below G4.out.1 G4.out.2 (Nat.le_refl _) G4.out.2.size⟩; obtain ⟨a5, c5, hu5, i5, n5, l5, m5⟩ := G5.out.1.shape; subst hu5; have hp5 : (pg ++ [0]).length = 4097 := (by rw [List.length_append, HG.out.2.2]; rfl); rw [hp5] at l5 ⊢; have I5 := Lib.hid (And.intro i5 (And.intro hp5 (And.intro n5 m5))); clear hg5 i5 n5 m5 hp5))
    have B5 := Lib.hid (below_then B3.out G5.out.2)
    have O5 := Lib.hid (O3.out.then_ G5.out.2)
    have Q5 := Lib.hid (Q3.out.trans (G5.out.2.mono (by have h1 := Q3.out.size; simpa using h1)))
    have E6 := Lib.hid (show openE (pg ++ [0]) number = 122 by unfold openE; rw [if_neg (by rw [I5.out.2.1]; omega)])
    refine (HP.out.1.opens number _ 4097 c5 (pg ++ [0]) w5 B5.out HP.out.2.1 I5.out.1 (HG.out.2.1.append (isB_of (by decide))) I5.out.2.1 l5 I5.out.2.2.2 I5.out.2.2.1).mono ?_
    rintro e w6 ⟨v6, rfl, o6, b6⟩
    have k6 : openK (pg ++ [0]) number = 0 := by unfold openK; rw [E6.out]; rfl
    rw [E6.out, k6]
    have B6 := Lib.hid (below_then B5.out b6)
    have Q6 := Lib.hid (Q5.out.trans (b6.mono (by have h1 := Q5.out.size; simpa using h1)))
    have O6 := Lib.hid (O5.out.then_ b6)
    clear b6 o6 k6
    go_wp2_with fail
    have hgl : W.heap.size < g := by omega
    have hgn : ¬ W.heap.size = g := by omega
    go_loopw [22, 23] (fun same i wr => ∃ (i' : Nat) (d : List Int) (b : Bool), i' ≤ 4 ∧ i = .int .i64 (i' : Int) ∧ same = .bool b ∧ K + i' ≤ 4096 ∧ (4 ≤ K ∨ K + i' ≤ 4) ∧ Hid (Turned pg K i' d b ∧ OwnB wr w1.heap.size (.slice (some ⟨g, 0, none⟩) 4096 cp) (pg.take K ++ (d ++ pg.drop (K + i'))) ∧ Below W.heap.size W wr ∧ Below (W.heap.size + 1) (W.alloc (.cells #[.int .u8 y0, .int .u8 y1, .int .u8 y2, .int .u8 y3] 50)) wr)) (fun _ i _ => 4 - (intOf i).toNat)
    case atStart => exact ⟨0, [], true, by omega, rfl, rfl, by omega, by omega, ⟨rfl, isB.nil, by simp, by rw [HG.out.2.2]; omega⟩, by have h := O6.out; simpa using h, B6.out, by have h := Q6.out; simpa using h⟩
    case round =>
      obtain ⟨i', d, b, hi4, rfl, rfl, hKi, hK4, HK⟩ := hrel
      replace HK := Lib.hid HK
      have HE := Lib.hid (show (openE (pg.take K ++ (d ++ pg.drop (K + i'))) number == 0) = b ∧ isB (pg.take K ++ (d ++ pg.drop (K + i'))) ∧ (pg.take K ++ (d ++ pg.drop (K + i'))).length = 4096 ∧ True ∧ InB wr (some ⟨g, 0, none⟩) (pg.take K ++ (d ++ pg.drop (K + i'))) ∧ Below W.heap.size W wr by
        refine ⟨open_turned HG.out.1 HG.out.2.1 HK.out.1 hi4 hK4, (HG.out.2.1.take' K).append (HK.out.1.byte.append (HG.out.2.1.drop _)), ?_, trivial, HK.out.2.1.inB, HK.out.2.2.1⟩
        rw [List.length_append, List.length_append, HK.out.1.len, List.length_take, List.length_drop, HG.out.2.2]; omega)
      by_cases hlt : i' < 4 ∧ K + i' < 4096
      · obtain ⟨hl1, hl2⟩ := hlt
        have j1 : (i' : Int) < 4 := by omega
        have j2 : (K : Int) + (i' : Int) < 4096 := by omega
        have j3 : (0 : Int) ≤ (K : Int) + (i' : Int) := by omega
        by_cases hbr : K < 4 ∧ 4 ≤ K + i'
        · obtain ⟨hbr1, hbr2⟩ := hbr
          clear HK hK4
          go_wp2_with fail
          refine (HP.out.1.opens number _ 4096 cp _ _ HE.out.2.2.2.2.2 HP.out.2.1 HE.out.2.2.2.2.1 HE.out.2.1 HE.out.2.2.1 hcp hcm (fun e => by cases e)).mono ?_
          rintro e w7 ⟨v7, rfl, o7, b7⟩
          have B7 := Lib.hid (below_then HE.out.2.2.2.2.2 b7)
          have HX := Lib.hid HE.out.1
          generalize openE (pg.take K ++ (d ++ pg.drop (K + i'))) number = x at HX ⊢
          generalize openK (pg.take K ++ (d ++ pg.drop (K + i'))) number = y
          clear b7 o7
          go_wp2_with fail
          go_ret
          exact ⟨ret_bool (by rw [HX.out]; simp), B7.out⟩
        · obtain ⟨z, hz⟩ : ∃ z, pg[K + i']? = some z := ⟨_, List.getElem?_eq_getElem (by rw [HG.out.2.2]; exact hl2)⟩
          obtain ⟨y, hy⟩ : ∃ y, [y0, y1, y2, y3][i']? = some y := ⟨_, List.getElem?_eq_getElem (by simpa using hl1)⟩
          have hyb : 0 ≤ y ∧ y ≤ 255 := by
            have hm := List.mem_of_getElem? hy
            simp only [List.mem_cons, List.not_mem_nil, or_false] at hm
            rcases hm with rfl | rfl | rfl | rfl
            · exact HY.out.1
            · exact HY.out.2.1
            · exact HY.out.2.2.1
            · exact HY.out.2.2.2
          have hzb := HG.out.2.1.at' hz
          have HN := Lib.hid (HK.out.1.next hz hzb hyb)
          obtain ⟨z0, f0⟩ := HK.out.2.1.at_ HN.out.2.2
          have y00 := HYC.out _ HK.out.2.2.2 i' y hy
          have hyy : ((y : Int) == 0) = decide (y = 0) := by by_cases h : y = 0 <;> simp [h]
          have HD := Lib.hid hyy
          clear hz hy hyb hzb HE
          by_cases hk4 : K < 4
          · have hk5 : K + i' < 4 := by omega
            cases b
            · go_wp2_with fail
              have s1 : IntKind.i64.wrap ((K : Int) + (i' : Int)) = (K : Int) + (i' : Int) := by rw [IntKind.wrap_i64]; omega
              have s2 : ((K : Int) + (i' : Int)).toNat = K + i' := by omega
              go_still_tail 15, (by kernel_rfl)
              clear s1 s2
              change wpList _ _ _ _ _ wr.drew
              go_wp2_with fail
              go_roundw
              case rel =>
                have h := HK.out.2.1.set (K + i') (bits .xor .u8 z y)
                rw [HN.out.2.1] at h
                exact ⟨i' + 1, d ++ [bits .xor .u8 z y], _, by omega, by go_num, rfl, by omega, by omega, HN.out.1, h.1.drew, (HK.out.2.2.1.setCell (p := ⟨g, K + i', none⟩) (Nat.le_of_lt hgl) _).drew, (HK.out.2.2.2.setCell (p := ⟨g, K + i', none⟩) hgl _).drew⟩
              case measure => simp [intOf]; omega
            · go_wp2_with fail
              have s1 : IntKind.i64.wrap ((K : Int) + (i' : Int)) = (K : Int) + (i' : Int) := by rw [IntKind.wrap_i64]; omega
              have s2 : ((K : Int) + (i' : Int)).toNat = K + i' := by omega
              go_still_tail 15, (by kernel_rfl)
              clear s1 s2
              change wpList _ _ _ _ _ wr.drew
              go_wp2_with fail
              go_roundw
              case rel =>
                have h := HK.out.2.1.set (K + i') (bits .xor .u8 z y)
                rw [HN.out.2.1] at h
                exact ⟨i' + 1, d ++ [bits .xor .u8 z y], _, by omega, by go_num, rfl, by omega, by omega, HN.out.1, h.1.drew, (HK.out.2.2.1.setCell (p := ⟨g, K + i', none⟩) (Nat.le_of_lt hgl) _).drew, (HK.out.2.2.2.setCell (p := ⟨g, K + i', none⟩) hgl _).drew⟩
              case measure => simp [intOf]; omega
          · cases b
            · go_wp2_with fail
              have s1 : IntKind.i64.wrap ((K : Int) + (i' : Int)) = (K : Int) + (i' : Int) := by rw [IntKind.wrap_i64]; omega
              have s2 : ((K : Int) + (i' : Int)).toNat = K + i' := by omega
              go_still_tail 15, (by kernel_rfl)
              clear s1 s2
              change wpList _ _ _ _ _ wr.drew
              go_wp2_with fail
              go_roundw
              case rel =>
                have h := HK.out.2.1.set (K + i') (bits .xor .u8 z y)
                rw [HN.out.2.1] at h
                exact ⟨i' + 1, d ++ [bits .xor .u8 z y], _, by omega, by go_num, rfl, by omega, by omega, HN.out.1, h.1.drew, (HK.out.2.2.1.setCell (p := ⟨g, K + i', none⟩) (Nat.le_of_lt hgl) _).drew, (HK.out.2.2.2.setCell (p := ⟨g, K + i', none⟩) hgl _).drew⟩
              case measure => simp [intOf]; omega
            · go_wp2_with fail
              have s1 : IntKind.i64.wrap ((K : Int) + (i' : Int)) = (K : Int) + (i' : Int) := by rw [IntKind.wrap_i64]; omega
              have s2 : ((K : Int) + (i' : Int)).toNat = K + i' := by omega
              go_still_tail 15, (by kernel_rfl)
              clear s1 s2
              change wpList _ _ _ _ _ wr.drew
              go_wp2_with fail
              go_roundw
              case rel =>
                have h := HK.out.2.1.set (K + i') (bits .xor .u8 z y)
                rw [HN.out.2.1] at h
                exact ⟨i' + 1, d ++ [bits .xor .u8 z y], _, by omega, by go_num, rfl, by omega, by omega, HN.out.1, h.1.drew, (HK.out.2.2.1.setCell (p := ⟨g, K + i', none⟩) (Nat.le_of_lt hgl) _).drew, (HK.out.2.2.2.setCell (p := ⟨g, K + i', none⟩) hgl _).drew⟩
              case measure => simp [intOf]; omega
      · clear HK
        by_cases h4 : i' < 4
        · have h5 : K + i' = 4096 := by omega
          clear hlt
          go_wp2_with fail
          refine (HP.out.1.opens number _ 4096 cp _ _ HE.out.2.2.2.2.2 HP.out.2.1 HE.out.2.2.2.2.1 HE.out.2.1 HE.out.2.2.1 hcp hcm (fun e => by cases e)).mono ?_
          rintro e w7 ⟨v7, rfl, o7, b7⟩
          have B7 := Lib.hid (below_then HE.out.2.2.2.2.2 b7)
          have HX := Lib.hid HE.out.1
          generalize openE (pg.take K ++ (d ++ pg.drop (K + i'))) number = x at HX ⊢
          generalize openK (pg.take K ++ (d ++ pg.drop (K + i'))) number = y
          clear b7 o7
          go_wp2_with fail
          go_ret
          exact ⟨ret_bool (by rw [HX.out]; simp), B7.out⟩
        · have h5 : i' = 4 := by omega
          clear hlt
          go_wp2_with fail
          refine (HP.out.1.opens number _ 4096 cp _ _ HE.out.2.2.2.2.2 HP.out.2.1 HE.out.2.2.2.2.1 HE.out.2.1 HE.out.2.2.1 hcp hcm (fun e => by cases e)).mono ?_
          rintro e w7 ⟨v7, rfl, o7, b7⟩
          have B7 := Lib.hid (below_then HE.out.2.2.2.2.2 b7)
          have HX := Lib.hid HE.out.1
          generalize openE (pg.take K ++ (d ++ pg.drop (K + i'))) number = x at HX ⊢
          generalize openK (pg.take K ++ (d ++ pg.drop (K + i'))) number = y
          clear b7 o7
          go_wp2_with fail
          go_ret
          exact ⟨ret_bool (by rw [HX.out]; simp), B7.out⟩
end Go.Proofs.YtlpnhfceblbllaaDoor
