/- The law JournalTells over the contracts. No statement is proved here. -/
import Derived.Test.YtophhnolnlbecaaDoorQ23
import Derived.Test.YtophhnolnlbecaaDoorQ35
namespace Go.Proofs.YtophhnolnlbecaaDoor
open Go.RowKit
set_option maxRecDepth 100000

theorem numL_le (e : Int) : (numL e 8).length ≤ 8 := by
  unfold numL
  split
  · rw [leB_len]
    exact Nat.le_refl _
  · exact Nat.zero_le _
theorem numL_byte (e : Int) : isB (numL e 8) := by
  unfold numL
  split
  · exact leB_byte _ _
  · exact isB.nil
theorem stamps_byte {e : Int} {F : List Int} (h : isB F) : isB (stamps e F) := catF_byte (fun q => stX_byte (numL_byte e) h q) _ _
/-- A frame laid into sectors, and asked for. -/
theorem asked_any {W : World} (P : P15F W) (e f : Int) (he : okInt e) (hf : okInt f) (a : Option Addr) (c L : Nat) (F : List Int) (hB : isB F) (hL : F.length = L) (hl : L ≤ 281474976) (hc : L ≤ c) :
    (∀ w : World, InB w a F → (a = none → c = 0) → (∀ ad, a = some ad → ad.spot = none) → Calls Tryd.prog 27 #[.int .i64 e, .slice a L c] w fun en w' => ∃ a' c', en = .returned (.slice a' (stamps e F).length c') ∧ InB w' a' (stamps e F) ∧ (a' = none → c' = 0 ∧ stamps e F = []) ∧ (stamps e F).length ≤ c' ∧ c' ≤ maxLen ∧ Below w.heap.size w w') ∧
    (∀ (w : World) (a' : Option Addr) (c' : Nat), Below W.heap.size W w → InB w a' (stamps e F) → (a' = none → c' = 0 ∧ stamps e F = []) → (stamps e F).length ≤ c' → c' ≤ maxLen → Calls Tryd.prog 15 #[.slice a' (stamps e F).length c', .int .i64 f] w fun en w' => ∃ (a' : Option Addr) (n' c' k : Nat), en = .returned (.tuple #[.slice a' n' c', .int .i64 (k : Int)]) ∧ n' = (scanN (streamN f ((stamps e F).length / 512) (stamps e F)) f).1.length ∧ Below w.heap.size w w') := by
  refine ⟨fun w hi hnil hpl => ?_, fun w a' c' hw hi hnil h1 h2 => ?_⟩
  · refine (stamped_any e he a L c F w hi hL hc hl hnil hpl (numL_le e)).mono ?_
    rintro en w' ⟨v, rfl, ho, hb⟩
    rw [← hL] at ho
    obtain ⟨a', c', rfl, q1, q2, q3, q4⟩ := ho.shape
    exact ⟨a', c', rfl, q1, q2, q3, q4, hb⟩
  · have hsl := stamps_len (numL_le e) F
    refine (P.scan f a' _ c' (stamps e F) w hw hf hi (stamps_byte hB) rfl h1 h2 (by rw [hsl]; omega) hnil).mono ?_
    rintro en w' ⟨v, rs, rfl, hm, ho, hb⟩
    obtain ⟨a2, c2, rfl, -⟩ := ho.form
    exact ⟨a2, rs.length, c2, _, rfl, by rw [← hm, List.length_map], hb⟩
theorem int_one (n : Nat) : (((n : Nat) : Int) == 1) = (n == 1) := by
  by_cases h : n = 1
  · rw [h]
    rfl
  · have h2 : ¬ ((n : Nat) : Int) = 1 := by omega
    rw [beq_eq_false_iff_ne.2 h2, beq_eq_false_iff_ne.2 h]
theorem int_zero (n : Nat) : (((n : Nat) : Int) == 0) = (n == 0) := by
  by_cases h : n = 0
  · rw [h]
    rfl
  · have h2 : ¬ ((n : Nat) : Int) = 0 := by omega
    rw [beq_eq_false_iff_ne.2 h2, beq_eq_false_iff_ne.2 h]
set_option maxHeartbeats 8000000 in
theorem jtells_law {W : World} (P : P15F W) (e : Int) (h1 : okInt e) (a : Option Addr) (c n : Nat) (l : List Int) (at_ y0 y1 y2 y3 : Int) (f : Int) (hf : okInt f) (ha : InB W a l) (hB : isB l) (hn : l.length = n) (hc : n ≤ c ∧ c ≤ 140737488351232) (h0 : a = none → c = 0)
    (hat : okInt at_) (hy0 : 0 ≤ y0 ∧ y0 ≤ 255) (hy1 : 0 ≤ y1 ∧ y1 ≤ 255) (hy2 : 0 ≤ y2 ∧ y2 ≤ 255) (hy3 : 0 ≤ y3 ∧ y3 ≤ 255) :
    Calls Tryd.prog 6 #[.int .i64 e, .slice a n c, .int .i64 at_, .agg #[.int .u8 y0, .int .u8 y1, .int .u8 y2, .int .u8 y3], .int .i64 f] W fun e w' => e = .returned (.bool true) ∧ Below W.heap.size W w' := by
  have HP := Lib.hid (And.intro P (And.intro h1 (And.intro hf (And.intro ha (And.intro hB (And.intro hn (fun e => ⟨h0 e, List.eq_nil_of_length_eq_zero (by have := h0 e; omega)⟩ : a = none → c = 0 ∧ l = [])))))))
  obtain ⟨hc1, hc2⟩ := hc
  have HY := Lib.hid (And.intro hy0 (And.intro hy1 (And.intro hy2 hy3)))
  unfold okInt at hat
  obtain ⟨t1, t2⟩ := hat
  clear P h1 hf ha hB hn h0 hy0 hy1 hy2 hy3
  go_enter Tryd.func6, Tryd.ntmps6
  go_wp2_with fail
  refine (awake15_any HP.out.1 _ (below1 W _)).mono ?_
  rintro e' w1 ⟨rfl, b1⟩
  have B1 := Lib.hid (below_then (below1 W _) b1)
  have Q1 := Lib.hid b1
  have HYC : Hid (∀ w2, Below (W.heap.size + 1) (W.alloc (.cells #[.int .u8 y0, .int .u8 y1, .int .u8 y2, .int .u8 y3] 53)) w2 → ∀ (i : Nat) (y : Int), [y0, y1, y2, y3][i]? = some y → w2.cell? ⟨W.heap.size, i, none⟩ = some (.int .u8 y)) := Lib.hid fun w2 hb i y hy => by
    have hi := lt_of_get hy
    simp at hi
    have h := row_cells (row_then (heap_alloc_new W (.cells #[.int .u8 y0, .int .u8 y1, .int .u8 y2, .int .u8 y3] 53)) (w' := w2) (by simpa using hb)) i
    rw [h]
    rcases (by omega : i = 0 ∨ i = 1 ∨ i = 2 ∨ i = 3) with rfl | rfl | rfl | rfl <;> (injection hy with hy; subst hy; rfl)
  clear b1
  go_wp2_with fail
  refine (HP.out.1.frame e 0 a n c l w1 B1.out HP.out.2.1 (by unfold okInt; omega) (HP.out.2.2.2.1.then_ B1.out) HP.out.2.2.2.2.1 HP.out.2.2.2.2.2.1 hc1 (Nat.le_trans hc2 (by decide)) (by omega) HP.out.2.2.2.2.2.2).mono ?_
  rintro e' w2 ⟨v, rfl, o2, b2⟩
  have B2 := Lib.hid (below_then B1.out b2)
  have Q2 := Lib.hid (Q1.out.trans (b2.mono (by have := Q1.out.size; simpa using this)))
  by_cases hok : jOk e ∧ n ≤ 268435456
  rotate_left
  · have hE : frE e 0 l.length ≠ 0 := by
      unfold frE
      rw [HP.out.2.2.2.2.2.1]
      by_cases hj : jOk e
      · rw [if_neg (by intro h; rcases h with h | h | h; exact h hj; omega; omega), if_pos (by have : ¬ n ≤ 268435456 := fun h => hok ⟨hj, h⟩; omega)]
        decide
      · rw [if_pos (.inl hj)]
        decide
    have q : (frE e 0 l.length != 0) = true := bne_iff_ne.2 hE
    generalize frE e 0 l.length = k at q ⊢
    clear o2 b2 hok hE
    go_wp2_with fail
    go_ret
    exact ⟨ret_bool (by simp), B2.out⟩
  obtain ⟨hj, hn28⟩ := hok
  have HJ := Lib.hid (And.intro hj (show l.length ≤ 268435456 by rw [HP.out.2.2.2.2.2.1]; exact hn28))
  have hE0 : frE e 0 l.length = 0 ∧ frE e 1 l.length = 0 := by
    unfold frE
    rw [HP.out.2.2.2.2.2.1]
    exact ⟨by rw [if_neg (by intro h; rcases h with h | h | h; exact h hj; omega; omega), if_neg (by omega)], by rw [if_neg (by intro h; rcases h with h | h | h; exact h hj; omega; omega), if_neg (by omega)]⟩
  have HE1 := Lib.hid (show frE e 1 l.length = 0 ∧ frL e 1 l = jFrame e 1 l from ⟨hE0.2, by unfold frL; rw [if_pos hE0.2]⟩)
  rw [show frL e 0 l = jFrame e 0 l by unfold frL; rw [if_pos hE0.1]] at o2
  rw [hE0.1]
  obtain ⟨L, hL⟩ : ∃ L, L = 20 + n := ⟨_, rfl⟩
  have hFL : (jFrame e 0 l).length = L := by rw [jFrame_len, HP.out.2.2.2.2.2.1, hL]
  have hGL : (jFrame e 1 l).length = L := by rw [jFrame_len, HP.out.2.2.2.2.2.1, hL]
  obtain ⟨g, cp, rfl, hcp⟩ := o2.form (by omega)
  have hcm : cp ≤ maxLen := by obtain ⟨a2, c2, e2, -, -, -, h2⟩ := o2.shape; injection e2 with _ _ e3; subst e3; exact h2
  rw [hFL] at o2 hcp ⊢
  have O2 := Lib.hid o2
  have HFL := Lib.hid (And.intro hFL hGL)
  have hg1 : w1.heap.size ≤ g := (o2.block g rfl).1
  have hW1 : W.heap.size < w1.heap.size := by have := Q1.out.size; simp at this; omega
  have hL20 : 20 ≤ L := by omega
  have hL28 : L ≤ 268435476 := by omega
  have HLn := Lib.hid hL
  obtain ⟨pg, hpg⟩ : ∃ pg, pg = jHead e 0 l ++ l := ⟨_, rfl⟩
  obtain ⟨sB, hsB⟩ : ∃ sB, sB = leB 4 (moreP 0 (jHead e 0 l ++ l)) := ⟨_, rfl⟩
  have HPG := Lib.hid (show jFrame e 0 l = asm sB pg ∧ pg.length = L - 4 ∧ sB.length = 4 ∧ isB pg ∧ isB sB from ⟨by rw [hpg, hsB]; exact asm_frame e 0 l, by rw [hpg, List.length_append, jHead_len, HP.out.2.2.2.2.2.1, hL]; omega, by rw [hsB, leB_len], by rw [hpg]; exact (jHead_byte e 0 l).append2 HP.out.2.2.2.2.1, by rw [hsB]; exact leB_byte _ _⟩)
  have HTN : Hid (∀ (K i : Nat) (d : List Int) (b : Bool), Turned pg K i d b → i ≤ 4 → 4 ≤ K → ((scanN (streamN e ((stamps e (asm sB (pg.take K ++ (d ++ pg.drop (K + i))))).length / 512) (stamps e (asm sB (pg.take K ++ (d ++ pg.drop (K + i)))))) e).1.length == 0) = !b) := Lib.hid (fun K i d b ht h4 hK => by
    rw [hpg] at ht ⊢
    rw [hsB]
    exact tells_n hj HJ.out.2 HP.out.2.2.2.2.1 ht h4 hK)
  clear hpg hsB
  have HFB := Lib.hid (And.intro (jFrame_byte (e := e) (num := 0) HP.out.2.2.2.2.1) (jFrame_byte (e := e) (num := 1) HP.out.2.2.2.2.1))
  have HK1 := Lib.hid (tells_l (f := f) hj HJ.out.2)
  have HK2 := Lib.hid (tells_m hj HJ.out.2)
  have HK3 := Lib.hid (tells_k (f := f) hj HJ.out.2)
  have HS1 := Lib.hid (asked_any HP.out.1 e f HP.out.2.1 HP.out.2.2.1 (some ⟨g, 0, none⟩) cp L _ HFB.out.1 hFL (by omega) hcp)
  have HS3 := Lib.hid (asked_any HP.out.1 f f HP.out.2.2.1 HP.out.2.2.1 (some ⟨g, 0, none⟩) cp L _ HFB.out.1 hFL (by omega) hcp)
  clear o2 b2 hE0 hL hFL hGL hj
  go_wp2_with fail
  refine (HS1.out.1 w2 O2.out.inB (fun e => by cases e) (fun ad e => by injection e with e; rw [← e])).mono ?_
  rintro e' w3 ⟨a3, c3, rfl, i3, n3, l3, m3, b3⟩
  have B3 := Lib.hid (below_then B2.out b3)
  have Q3 := Lib.hid (Q2.out.trans (b3.mono (by have h1 := Q2.out.size; simpa using h1)))
  have O3 := Lib.hid (O2.out.then_ b3)
  have HC3 := Lib.hid (HS1.out.2 w3 a3 c3 B3.out i3 n3 l3 m3)
  clear b3 i3 n3 l3 m3 HS1
  go_wp2_with fail
  refine HC3.out.mono ?_
  rintro e' w4 ⟨a4, n4, c4, k4, rfl, hn4, b4⟩
  rw [← hn4] at HK1
  have B4 := Lib.hid (below_then B3.out b4)
  have Q4 := Lib.hid (Q3.out.trans (b4.mono (by have h1 := Q3.out.size; simpa using h1)))
  have O4 := Lib.hid (O3.out.then_ b4)
  clear b4 HC3 hn4
  go_wp2_with fail
  refine (HP.out.1.frame e 1 a n c l w4 B4.out HP.out.2.1 (by unfold okInt; omega) (HP.out.2.2.2.1.then_ B4.out) HP.out.2.2.2.2.1 HP.out.2.2.2.2.2.1 hc1 (Nat.le_trans hc2 (by decide)) (by omega) HP.out.2.2.2.2.2.2).mono ?_
  rintro e' w5 ⟨v5, rfl, o5, b5⟩
  rw [HE1.out.1]
  rw [HE1.out.2] at o5
  obtain ⟨g5, c5, rfl, hc5⟩ := o5.form (by rw [HFL.out.2]; omega)
  rw [HFL.out.2] at o5 hc5 ⊢
  have B5 := Lib.hid (below_then B4.out b5)
  have Q5 := Lib.hid (Q4.out.trans (b5.mono (by have h1 := Q4.out.size; simpa using h1)))
  have O5 := Lib.hid (And.intro (O4.out.then_ b5) o5)
  have HS2 := Lib.hid (asked_any HP.out.1 e e HP.out.2.1 HP.out.2.1 (some ⟨g5, 0, none⟩) c5 L _ HFB.out.2 HFL.out.2 (by omega) hc5)
  clear b5 o5
  go_wp2_with fail
  refine (HS2.out.1 w5 O5.out.2.inB (fun e => by cases e) (fun ad e => by injection e with e; rw [← e])).mono ?_
  rintro e' w6 ⟨a6, c6, rfl, i6, n6, l6, m6, b6⟩
  have B6 := Lib.hid (below_then B5.out b6)
  have Q6 := Lib.hid (Q5.out.trans (b6.mono (by have h1 := Q5.out.size; simpa using h1)))
  have O6 := Lib.hid (O5.out.1.then_ b6)
  have HC6 := Lib.hid (HS2.out.2 w6 a6 c6 B6.out i6 n6 l6 m6)
  clear b6 i6 n6 l6 m6 HS2
  go_wp2_with fail
  refine HC6.out.mono ?_
  rintro e' w7 ⟨a7, n7, c7, k7, rfl, hn7, b7⟩
  rw [HK2.out] at hn7
  subst hn7
  have B7 := Lib.hid (below_then B6.out b7)
  have Q7 := Lib.hid (Q6.out.trans (b7.mono (by have h1 := Q6.out.size; simpa using h1)))
  have O7 := Lib.hid (O6.out.then_ b7)
  clear b7 HC6
  go_wp2_with fail
  refine (HS3.out.1 w7 O7.out.inB (fun e => by cases e) (fun ad e => by injection e with e; rw [← e])).mono ?_
  rintro e' w8 ⟨a8, c8, rfl, i8, n8, l8, m8, b8⟩
  have B8 := Lib.hid (below_then B7.out b8)
  have Q8 := Lib.hid (Q7.out.trans (b8.mono (by have h1 := Q7.out.size; simpa using h1)))
  have O8 := Lib.hid (O7.out.then_ b8)
  have HC8 := Lib.hid (HS3.out.2 w8 a8 c8 B8.out i8 n8 l8 m8)
  clear b8 i8 n8 l8 m8 HS3
  go_wp2_with fail
  refine HC8.out.mono ?_
  rintro e' w9 ⟨a9, n9, c9, k9, rfl, hn9, b9⟩
  rw [← hn9] at HK3
  have B9 := Lib.hid (below_then B8.out b9)
  have Q9 := Lib.hid (Q8.out.trans (b9.mono (by have h1 := Q8.out.size; simpa using h1)))
  have O9 := Lib.hid (O8.out.then_ b9)
  clear b9 HC8 hn9
  have q4 : (((n4 : Nat) : Int) == 1) = decide (f = e) := by rw [← HK1.out]; exact int_one n4
  have q9 : (((n9 : Nat) : Int) == 1) = decide (f = e) := by rw [← HK3.out]; exact int_one n9
  have qf : (f == e) = decide (f = e) := by by_cases h : f = e <;> simp [h]
  generalize decide (f = e) = D at q4 q9 qf
  cases D
  all_goals
    go_upto_if 107 with fail
    go_cut [2] from 106 to 110 (fun v wx => ∃ A : Nat, A ≤ 9223372036854775807 ∧ v = .int .i64 (A : Int) ∧ wx = w9)
    case first =>
      by_cases hneg : at_ < 0
      · go_wp2_with fail
        all_goals go_meet
        all_goals exact ⟨(-(at_ + 1)).toNat, by omega, by rw [Int.toNat_of_nonneg (by omega)], rfl⟩
      · go_wp2_with fail
        all_goals go_meet
        all_goals exact ⟨at_.toNat, by omega, by rw [Int.toNat_of_nonneg (by omega)], rfl⟩
    case rest =>
      obtain ⟨A, hA, rfl, rfl⟩ := hcut
      obtain ⟨K, hK⟩ : ∃ K : Nat, K = 4 + A % (L - 8) := ⟨_, rfl⟩
      have hKi : (4 : Int) + (A : Int) % ((L : Int) - 8) = (K : Int) := by
        rw [hK]
        have : ((A % (L - 8) : Nat) : Int) = (A : Int) % ((L : Int) - 8) := by
          rw [Int.natCast_emod, Int.ofNat_sub (by omega)]
          rfl
        omega
      have hmod : A % (L - 8) < L - 8 := Nat.mod_lt _ (by omega)
      have hK4 : 4 ≤ K := by omega
      have hKL : K < L - 4 := by omega
      clear hK hmod
      have hL8 : (8 : Int) < (L : Int) := by omega
      go_wp2_with fail
      try rw [hKi]
      clear hKi
      have hgl : W.heap.size < g := by omega
      have hgn : ¬ W.heap.size = g := by omega
      go_loopw [23, 24] (fun tv i wr => ∃ (i' : Nat) (d : List Int) (b : Bool), i' ≤ 4 ∧ i = .int .i64 (i' : Int) ∧ tv = .bool b ∧ K + i' ≤ L - 4 ∧ Hid (Turned pg K i' d (!b) ∧ OwnB wr w1.heap.size (.slice (some ⟨g, 0, none⟩) L cp) (asm sB (pg.take K ++ (d ++ pg.drop (K + i')))) ∧ Below W.heap.size W wr ∧ Below (W.heap.size + 1) (W.alloc (.cells #[.int .u8 y0, .int .u8 y1, .int .u8 y2, .int .u8 y3] 53)) wr)) (fun _ i _ => 4 - (intOf i).toNat)
      case atStart => exact ⟨0, [], false, by omega, rfl, rfl, by omega, Lib.hid ⟨⟨rfl, isB.nil, by simp, by rw [HPG.out.2.1]; omega⟩, by have h := O9.out; rw [HPG.out.1] at h; simpa using h, B9.out, by have h := Q9.out; simpa using h⟩⟩
      case round =>
        obtain ⟨i', d, b, hi4, rfl, rfl, hKi', HK⟩ := hrel
        by_cases hlt : i' < 4 ∧ K + i' < L - 4
        · obtain ⟨hl1, hl2⟩ := hlt
          have j1 : (i' : Int) < 4 := by omega
          have j2 : (K : Int) + (i' : Int) < (L : Int) - 4 := by omega
          obtain ⟨z, hz⟩ : ∃ z, pg[K + i']? = some z := ⟨_, List.getElem?_eq_getElem (by rw [HPG.out.2.1]; exact hl2)⟩
          obtain ⟨y, hy⟩ : ∃ y, [y0, y1, y2, y3][i']? = some y := ⟨_, List.getElem?_eq_getElem (by simpa using hl1)⟩
          have hyb : 0 ≤ y ∧ y ≤ 255 := by
            have hm := List.mem_of_getElem? hy
            simp only [List.mem_cons, List.not_mem_nil, or_false] at hm
            rcases hm with rfl | rfl | rfl | rfl
            · exact HY.out.1
            · exact HY.out.2.1
            · exact HY.out.2.2.1
            · exact HY.out.2.2.2
          have hzb := HPG.out.2.2.2.1.at' hz
          have HN := Lib.hid (HK.out.1.next hz hzb hyb)
          have hrl : 16 ≤ (pg.take K ++ (d ++ pg.drop (K + i'))).length := by
            rw [List.length_append, List.length_append, HK.out.1.len, List.length_take, List.length_drop, HPG.out.2.1]
            omega
          have HG := Lib.hid (asm_get (j := K + i') HPG.out.2.2.1 hrl)
          have HSt := Lib.hid (fun x => asm_set (j := K + i') HPG.out.2.2.1 hrl x)
          have y00 := HYC.out _ HK.out.2.2.2 i' y hy
          have hyy : ((y : Int) != 0) = !decide (y = 0) := by by_cases h : y = 0 <;> simp [h]
          clear hz hy hyb hzb hrl
          by_cases h16 : 16 ≤ K + i'
          · have hg0 := HG.out.trans HN.out.2.2
            rw [if_pos h16] at hg0
            have hs0 := HSt.out (bits .xor .u8 z y)
            rw [if_pos h16, HN.out.2.1] at hs0
            have HS0 := Lib.hid hs0
            obtain ⟨z0, f0⟩ := HK.out.2.1.at_ hg0
            have h16i : (16 : Int) ≤ (K : Int) + (i' : Int) := by omega
            clear hg0 hs0
            have s2 : ((K : Int) + (i' : Int) + 4).toNat = K + i' + 4 := by omega
            have s3 : (0 : Int) ≤ (K : Int) + (i' : Int) + 4 := by omega
            have s4 : (K : Int) + (i' : Int) + 4 < (L : Int) := by omega
            have z1 : wr.drew.cell? ⟨g, K + i' + 4, none⟩ = some (.int .u8 z) := z0
            have f1 : wr.drew.frozen? ⟨g, K + i' + 4, none⟩ = false := f0
            have y1' : wr.drew.cell? ⟨W.heap.size, i', none⟩ = some (.int .u8 y) := y00
            cases b
            all_goals
              go_wp2_with fail
              go_region
              clear z1 f1 y1'
              go_wp2_with fail
              go_roundw
              case rel =>
                have h := HK.out.2.1.set (K + i' + 4) (bits .xor .u8 z y)
                rw [HS0.out] at h
                refine ⟨i' + 1, d ++ [bits .xor .u8 z y], _, by omega, by go_num, rfl, by omega, Lib.hid ⟨?_, h.1.drew, (HK.out.2.2.1.setCell (p := ⟨g, K + i' + 4, none⟩) (Nat.le_of_lt hgl) _).drew, (HK.out.2.2.2.setCell (p := ⟨g, K + i' + 4, none⟩) hgl _).drew⟩⟩
                have ht := HN.out.1
                simpa using ht
              case measure => simp [intOf]; omega
          · have hg0 := HG.out.trans HN.out.2.2
            rw [if_neg h16] at hg0
            have hs0 := HSt.out (bits .xor .u8 z y)
            rw [if_neg h16, HN.out.2.1] at hs0
            have HS0 := Lib.hid hs0
            obtain ⟨z0, f0⟩ := HK.out.2.1.at_ hg0
            have h16i : ¬ (16 : Int) ≤ (K : Int) + (i' : Int) := by omega
            clear hg0 hs0
            have s2 : ((K : Int) + (i' : Int)).toNat = K + i' := by omega
            have s3 : (0 : Int) ≤ (K : Int) + (i' : Int) := by omega
            have s4 : (K : Int) + (i' : Int) < (L : Int) := by omega
            have z1 : wr.drew.cell? ⟨g, K + i', none⟩ = some (.int .u8 z) := z0
            have f1 : wr.drew.frozen? ⟨g, K + i', none⟩ = false := f0
            have y1' : wr.drew.cell? ⟨W.heap.size, i', none⟩ = some (.int .u8 y) := y00
            cases b
            all_goals
              go_wp2_with fail
              go_region
              clear z1 f1 y1'
              go_wp2_with fail
              go_roundw
              case rel =>
                have h := HK.out.2.1.set (K + i') (bits .xor .u8 z y)
                rw [HS0.out] at h
                refine ⟨i' + 1, d ++ [bits .xor .u8 z y], _, by omega, by go_num, rfl, by omega, Lib.hid ⟨?_, h.1.drew, (HK.out.2.2.1.setCell (p := ⟨g, K + i', none⟩) (Nat.le_of_lt hgl) _).drew, (HK.out.2.2.2.setCell (p := ⟨g, K + i', none⟩) hgl _).drew⟩⟩
                have ht := HN.out.1
                simpa using ht
              case measure => simp [intOf]; omega
        · have hT := HTN.out K i' d (!b) HK.out.1 hi4 hK4
          obtain ⟨F', hF'⟩ : ∃ F', F' = asm sB (pg.take K ++ (d ++ pg.drop (K + i'))) := ⟨_, rfl⟩
          have hBF : isB F' := by
            rw [hF']
            have hr : isB (pg.take K ++ (d ++ pg.drop (K + i'))) := (HPG.out.2.2.2.1.take' K).append2 (HK.out.1.byte.append2 (HPG.out.2.2.2.1.drop _))
            unfold asm
            exact (hr.take' 16).append2 (HPG.out.2.2.2.2.append2 (hr.drop _))
          have hLF : F'.length = L := by
            rw [hF', asm_len, HPG.out.2.2.1, List.length_append, List.length_append, HK.out.1.len, List.length_take, List.length_drop, HPG.out.2.1]
            omega
          have HAs := Lib.hid (asked_any HP.out.1 e e HP.out.2.1 HP.out.2.1 (some ⟨g, 0, none⟩) cp L F' hBF hLF (by omega) hcp)
          rw [← hF'] at hT
          have HR := Lib.hid (show OwnB wr w1.heap.size (.slice (some ⟨g, 0, none⟩) L cp) F' ∧ Below W.heap.size W wr from ⟨by rw [hF']; exact HK.out.2.1, HK.out.2.2.1⟩)
          clear hF' hBF hLF HK
          by_cases h4 : i' < 4
          · have h5 : L - 4 ≤ K + i' := by omega
            clear hlt
            go_wp2_with fail
            refine (HAs.out.1 _ HR.out.1.inB (fun e => by cases e) (fun ad e => by injection e with e; rw [← e])).mono ?_
            rintro e' wa ⟨aa, ca, rfl, ia, na, la, ma, ba⟩
            have Ba := Lib.hid (below_then HR.out.2 ba)
            have HCa := Lib.hid (HAs.out.2 wa aa ca Ba.out ia na la ma)
            clear ba ia na la ma HAs
            go_wp2_with fail
            refine HCa.out.mono ?_
            rintro e' wb ⟨ab, nb, cb, kb, rfl, hnb, bb⟩
            rw [← hnb] at hT
            have Bb := Lib.hid (below_then Ba.out bb)
            clear bb HCa hnb
            have hq := int_zero nb
            rw [hT] at hq
            go_wp2_with fail
            go_ret
            exact ⟨ret_bool (by simp), Bb.out⟩
          · obtain rfl : i' = 4 := by omega
            clear hlt
            go_wp2_with fail
            refine (HAs.out.1 _ HR.out.1.inB (fun e => by cases e) (fun ad e => by injection e with e; rw [← e])).mono ?_
            rintro e' wa ⟨aa, ca, rfl, ia, na, la, ma, ba⟩
            have Ba := Lib.hid (below_then HR.out.2 ba)
            have HCa := Lib.hid (HAs.out.2 wa aa ca Ba.out ia na la ma)
            clear ba ia na la ma HAs
            go_wp2_with fail
            refine HCa.out.mono ?_
            rintro e' wb ⟨ab, nb, cb, kb, rfl, hnb, bb⟩
            rw [← hnb] at hT
            have Bb := Lib.hid (below_then Ba.out bb)
            clear bb HCa hnb
            have hq := int_zero nb
            rw [hT] at hq
            go_wp2_with fail
            go_ret
            exact ⟨ret_bool (by simp), Bb.out⟩
end Go.Proofs.YtophhnolnlbecaaDoor
