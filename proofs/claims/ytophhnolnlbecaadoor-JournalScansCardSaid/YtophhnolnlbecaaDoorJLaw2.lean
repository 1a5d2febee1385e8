/- The law JournalScans over the contracts. No statement is proved here. -/
import Derived.Test.YtophhnolnlbecaaDoorQ23
import Derived.Test.YtophhnolnlbecaaDoorOOwned
import Derived.Test.YtophhnolnlbecaaDoorQ7
namespace Go.Proofs.YtophhnolnlbecaaDoor
open Go.RowKit
set_option maxRecDepth 100000

theorem scanF_facts (s : List Int) (e : Int) : ∀ (f k en : Nat), (∀ r ∈ (scanF s e f k en).1, r.length ≤ s.length ∧ (isB s → isB r)) ∧ (k ≤ 2147483648 → k + (scanF s e f k en).1.length ≤ 2147483648)
  | 0, k, en => ⟨fun r hr => by simp [scanF] at hr, fun h => by simpa [scanF] using h⟩
  | f + 1, k, en => by
    rw [scanF]
    split
    · exact ⟨fun r hr => by simp at hr, fun h => by simpa using h⟩
    · split
      · exact ⟨fun r hr => by simp at hr, fun h => by simpa using h⟩
      · rename_i hs
        obtain ⟨h1, h2⟩ := scanF_facts s e f (k + 1) (begins en + standsN (s.drop (begins en)) e k)
        have hk := (stands_some hs).1
        refine ⟨fun r hr => ?_, fun h => ?_⟩
        · rcases List.mem_cons.1 hr with rfl | hr
          · exact ⟨by rw [List.length_take, List.length_drop]; omega, fun hB => (hB.drop _).take' _⟩
          · exact h1 r hr
        · have := h2 (by omega)
          rw [List.length_cons]
          omega
theorem scanN_facts (s : List Int) (e : Int) : (∀ r ∈ (scanN s e).1, r.length ≤ s.length ∧ (isB s → isB r)) ∧ (scanN s e).1.length ≤ 2147483648 := by
  unfold scanN
  split
  · have h := scanF_facts s e (s.length + 1) 0 0
    exact ⟨h.1, by have := h.2 (by omega); omega⟩
  · exact ⟨fun r hr => by simp at hr, Nat.zero_le _⟩
theorem OwnRO.rowsAt {w : World} {B : Nat} {v : Value} {rs : List (Value × List Int)} (h : OwnRO w B v rs) (hw : 0 < w.heap.size) : ∃ R ra c, v = .slice ra rs.length c ∧ (0 < rs.length → ra = some ⟨R, 0, none⟩) ∧ RowsAtO w B R 0 rs ∧ R < w.heap.size := by
  obtain ⟨h1, h2⟩ := h.row
  rcases h2 with ⟨hv, hz⟩ | ⟨g, cap, cur, hv, hb, hg, -⟩
  · have hz2 : rs = [] := List.eq_nil_of_length_eq_zero hz
    subst hz2
    exact ⟨0, none, 0, hv, fun h => by simp at h, ⟨fun i x l e => by simp at e, fun i x l e => by simp at e, fun i x l e => by simp at e, fun i j x l x' l' e => by simp at e⟩, hw⟩
  · refine ⟨g, _, cap, hv, fun _ => rfl, ⟨fun i x l e => ?_, h.own, fun i x l e hx => h.off i x l e g hx (by rw [hv]; rfl), h.apart⟩, lt_of_block hg⟩
    obtain ⟨g', c', hv', hc⟩ := h.at_ e
    rw [hv] at hv'
    injection hv' with e1
    injection e1 with e1
    injection e1 with e1
    rw [Nat.zero_add, e1]
    exact hc
theorem OwnRO.cellsAt {w : World} {B : Nat} {a : Option Addr} {n c : Nat} {rs : List (Value × List Int)} (h : OwnRO w B (.slice a n c) rs) : ∀ ad, a = some ad → ∀ (i : Nat) (x : Value) (l : List Int), rs[i]? = some (x, l) → w.cell? (ad.add i) = some x := fun ad e i x l hi => by
  obtain ⟨g, c', hv, hc⟩ := h.at_ hi
  injection hv with hv
  rw [e] at hv
  injection hv with hv
  subst hv
  have e2 : (⟨g, 0, none⟩ : Addr).add i = ⟨g, i, none⟩ := by unfold Addr.add; split <;> simp_all
  rw [e2]
  exact hc
def ScTo2 (RS : List (List Int)) (k : Nat) (w : World) (en : Ending) (w' : World) : Prop := ∃ v rs, en = .returned (.tuple #[v, .int .i64 (k : Int)]) ∧ rs.map Prod.snd = RS ∧ OwnRO w' w.heap.size v rs ∧ Below w.heap.size w w'
theorem ScTo.two {l : List Int} {e : Int} {w w' : World} {en : Ending} {RS : List (List Int)} {k : Nat} (h : ScTo l e w en w') (h1 : RS = (scanN (streamN e (l.length / 512) l) e).1) (h2 : k = (scanN (streamN e (l.length / 512) l) e).2) : ScTo2 RS k w en w' := by
  obtain ⟨v, rs, q1, q2, q3, q4⟩ := h
  exact ⟨v, rs, by rw [h2]; exact q1, by rw [h1]; exact q2, q3.o, q4⟩
theorem ScP.two {l : List Int} {e : Int} {w w' : World} {en : Ending} {RS : List (List Int)} {k : Nat} (h : ScP l e w en w') (h1 : RS = (scanN (streamN e (l.length / 512) l) e).1) (h2 : k = (scanN (streamN e (l.length / 512) l) e).2) : ScTo2 RS k w en w' := by
  obtain ⟨v, rs, q1, q2, q3, q4⟩ := h
  exact ⟨v, rs, by rw [h2]; exact q1, by rw [h1]; exact q2, q3, q4⟩
set_option maxHeartbeats 8000000 in
theorem scans_law {W : World} (P : P15F W) (e : Int) (h1 : okInt e) (a : Option Addr) (c n : Nat) (l : List Int) (ha : InB W a l) (hB : isB l) (hn : l.length = n) (hc : n ≤ c ∧ c ≤ 140737488351232) (h0 : a = none → c = 0) :
    Calls Tryd.prog 4 #[.slice a n c, .int .i64 e] W fun e w' => e = .returned (.bool true) ∧ Below W.heap.size W w' := by
  have HP := Lib.hid (And.intro P (And.intro h1 (And.intro ha (And.intro hB (And.intro hn (fun e => ⟨h0 e, List.eq_nil_of_length_eq_zero (by have := h0 e; omega)⟩ : a = none → c = 0 ∧ l = []))))))
  obtain ⟨hc1, hc2⟩ := hc
  have hfa := scanN_facts (streamN e (l.length / 512) l) e
  have hsl := stream_len e (l.length / 512) l
  obtain ⟨RS, hRS⟩ : ∃ RS, RS = (scanN (streamN e (l.length / 512) l) e).1 := ⟨_, rfl⟩
  obtain ⟨en, hen⟩ : ∃ en, en = (scanN (streamN e (l.length / 512) l) e).2 := ⟨_, rfl⟩
  have HRS := Lib.hid (show RS.length ≤ 2147483648 ∧ (∀ r ∈ RS, r.length ≤ n ∧ isB r) by rw [hRS]; exact ⟨hfa.2, fun r hr => ⟨Nat.le_trans (hfa.1 r hr).1 (Nat.le_trans hsl (Nat.le_of_eq hn)), (hfa.1 r hr).2 (stream_byte _ _ hB)⟩⟩)
  have HSC := Lib.hid (fun (w : World) (ax : Option Addr) (cx : Nat) (hw : Below W.heap.size W w) (hi : InB w ax l) (h1 : n ≤ cx) (h2 : cx ≤ maxLen) (h3 : ax = none → cx = 0 ∧ l = []) => (P.scan e ax n cx l w hw HP.out.2.1 hi hB hn h1 h2 (by omega) h3).mono fun en' w' h => h.two hRS hen)
  have HSR := Lib.hid (fun (w : World) (hi : InB w a l) => (rscan_any e a n c l w HP.out.2.1 hi hB hn hc1 (by omega)).mono fun en' w' h => h.two hRS hen)
  clear P h1 ha hB hn h0 hfa hsl hRS hen
  go_enter Tryd.func4, Tryd.ntmps4
  go_wp2_with fail
  refine (awake15_any HP.out.1 W (Below.refl _ _)).mono ?_
  rintro e' w1 ⟨rfl, b1⟩
  have B1 := Lib.hid b1
  clear b1
  go_wp2_with fail
  refine (slent_any a c n l w1 (HP.out.2.2.1.then_ B1.out) HP.out.2.2.2.2.2 HP.out.2.2.2.2.1 (by omega)).mono ?_
  rintro e' w2 ⟨rfl, ho, b2⟩
  have hin := Lib.hid ho.inB.prefix_
  have O2 := Lib.hid ho
  have B2 := Lib.hid (below_then B1.out b2)
  have hlt := (O2.out.block _ rfl).2
  clear b2 ho
  go_wp2_with fail
  refine (HSC.out w2 _ (n + 3) B2.out hin.out (by omega) (Nat.le_trans (by omega : n + 3 ≤ 140737488355328) (by decide)) (fun e => by cases e)).mono ?_
  rintro e' w3 ⟨v1, rs1, rfl, m1, o1, b3⟩
  have M1 := Lib.hid m1
  have R1 := Lib.hid o1
  have B3 := Lib.hid (below_then B2.out b3)
  have O3 := Lib.hid (O2.out.then_ b3)
  have I3 := Lib.hid (hin.out.then_ b3)
  have S3 := b3.size
  clear b3 o1 m1
  go_wp2_with fail
  refine (HSC.out w3 _ (n + 3) B3.out I3.out (by omega) (Nat.le_trans (by omega : n + 3 ≤ 140737488355328) (by decide)) (fun e => by cases e)).mono ?_
  rintro e' w4 ⟨v2, rs2, rfl, m2, o2, b4⟩
  have M2 := Lib.hid m2
  have R2 := Lib.hid (And.intro (R1.out.then_ b4) o2)
  have B4 := Lib.hid (below_then B3.out b4)
  have O4 := Lib.hid (O3.out.then_ b4)
  have S4 := b4.size
  -- apart from one another
  have HAP := Lib.hid (show (∀ (i : Nat) (x : Value) (m : List Int), rs2[i]? = some (x, m) → ∀ g, x.ownBlock = some g → g < w4.heap.size ∧ ∀ (j : Nat) (y : Value) (k : List Int), rs1[j]? = some (y, k) → y.ownBlock ≠ some g) from fun i x m hi g hg => ⟨((o2.own i x m hi).block g hg).2, fun j y k hj hy => by
    have h1 := ((R1.out.own j y k hj).block g hy).2
    have h2 := ((o2.own i x m hi).block g hg).1
    omega⟩)
  have HAP1 := Lib.hid (show (∀ (i : Nat) (x : Value) (m : List Int), rs1[i]? = some (x, m) → ∀ g, x.ownBlock = some g → g < w3.heap.size) from fun i x m hi g hg => ((R1.out.own i x m hi).block g hg).2)
  clear b4 o2 m2
  go_wp2_with fail
  refine (sback_any w1.heap.size w1.heap.size a c n l w4 O4.out (HP.out.2.2.1.then_ B4.out) (fun b o e h => by have := HP.out.2.2.1.lowB b o e h; have := B1.out.size; omega) HP.out.2.2.2.2.1 (by omega)).mono ?_
  rintro e' w5 ⟨rfl, b5⟩
  have R5 := Lib.hid (And.intro (R2.out.1.only b5 (fun g hg => by have := (R2.out.1.block g hg).1; simp; omega) (fun i x m hi g hg => by have := ((R2.out.1.own i x m hi).block g hg).1; simp; omega)) (R2.out.2.only b5 (fun g hg => by have := (R2.out.2.block g hg).1; simp; omega) (fun i x m hi g hg => by have := ((R2.out.2.own i x m hi).block g hg).1; simp; omega)))
  have B5 : Hid (Below W.heap.size W w5) := Lib.hid (((Only.of_below (S := []) B4.out).then_ b5 (by intro i hi; simp at hi; subst hi; right; exact B1.out.size)).below)
  have S5 := b5.size
  clear b5
  go_wp2_with fail
  refine (HSR.out w5 (HP.out.2.2.1.then_ B5.out)).mono ?_
  rintro e' w6 ⟨v3, rs3, rfl, m3, o3, b6⟩
  have hb1 : ∀ p ∈ rs1, isB p.2 := fun p hp => (HRS.out.2 p.2 (by rw [← M1.out]; exact List.mem_map_of_mem hp)).2
  have hb2 : ∀ p ∈ rs2, isB p.2 := fun p hp => (HRS.out.2 p.2 (by rw [← M2.out]; exact List.mem_map_of_mem hp)).2
  have hb3 : ∀ p ∈ rs3, isB p.2 := fun p hp => (HRS.out.2 p.2 (by rw [← m3]; exact List.mem_map_of_mem hp)).2
  have R6 := Lib.hid (And.intro (R5.out.1.then_ b6) (R5.out.2.then_ b6))
  obtain ⟨a1, c1, rfl, q1⟩ := R6.out.1.inRR hb1
  obtain ⟨a2, c2, rfl, q2⟩ := R6.out.2.inRR hb2
  obtain ⟨a3, c3, rfl, q3⟩ := o3.inRR hb3
  rw [M1.out] at q1
  rw [M2.out] at q2
  rw [m3] at q3
  have L1 : rs1.length = RS.length := by rw [← M1.out, List.length_map]
  have L2 : rs2.length = RS.length := by rw [← M2.out, List.length_map]
  have L3 : rs3.length = RS.length := by rw [← m3, List.length_map]
  have Q := Lib.hid (And.intro q1 (And.intro q2 q3))
  have B6 := Lib.hid (below_then B5.out b6)
  have S6 := b6.size
  have HLL := Lib.hid (And.intro L1 L2)
  have hrl : RS.length ≤ 2147483648 := HRS.out.1
  rw [L1, L2, L3]
  clear b6 o3 m3 q1 q2 q3 hb1 hb2 hb3 L1 L2 L3
  obtain ⟨N, hN⟩ : ∃ N, N = RS.length := ⟨_, rfl⟩
  rw [← hN] at hrl ⊢
  have HN := Lib.hid hN.symm
  clear hN
  go_wp2_with fail
  refine (same_any a1 N c1 RS a3 N c3 RS w6 Q.out.1 HN.out Q.out.2.2 HN.out (by omega)).mono ?_
  rintro e' w7 ⟨rfl, b7⟩
  rw [decide_eq_true rfl]
  have B7 := Lib.hid b7
  clear b7
  go_wp2_with fail
  refine (same_any a2 N c2 RS a3 N c3 RS w7 (Q.out.2.1.then_ B7.out) HN.out (Q.out.2.2.then_ B7.out) HN.out (by omega)).mono ?_
  rintro e' w8 ⟨rfl, b8⟩
  rw [decide_eq_true rfl]
  have B68 := Lib.hid (below_then B7.out b8)
  have B8 := Lib.hid (below_then B6.out B68.out)
  have T1 := Lib.hid ((R6.out.1.then_ B68.out).base (show W.heap.size ≤ w2.heap.size from B2.out.size))
  have T2 := Lib.hid ((R6.out.2.then_ B68.out).base (show W.heap.size ≤ w3.heap.size from B3.out.size))
  have S8 := B68.out.size
  have F1 := Lib.hid T1.out.form
  have F2 := Lib.hid T2.out.form
  have K1 : a1 = none → N = 0 ∧ c1 = 0 := fun h => by
    obtain ⟨ax, cx, e1, e2, -⟩ := F1.out
    injection e1 with e1 e3 e4
    have h2 := e2 (e1 ▸ h)
    have h3 := HLL.out.1
    rw [h2.2, HN.out] at h3
    exact ⟨h3.symm, by rw [e4]; exact h2.1⟩
  have K2 : a2 = none → N = 0 ∧ c2 = 0 := fun h => by
    obtain ⟨ax, cx, e1, e2, -⟩ := F2.out
    injection e1 with e1 e3 e4
    have h2 := e2 (e1 ▸ h)
    have h3 := HLL.out.2
    rw [h2.2, HN.out] at h3
    exact ⟨h3.symm, by rw [e4]; exact h2.1⟩
  clear b8 F1 F2
  have HLN := Lib.hid (And.intro (HLL.out.1.trans HN.out) (HLL.out.2.trans HN.out))
  have HM : Hid (∀ (x : Value) (m : List Int), (x, m) ∈ rs1 ∨ (x, m) ∈ rs2 → m.length ≤ n) := Lib.hid (fun x m h => by
    have hm : m ∈ RS := by
      rcases h with h | h
      · rw [← M1.out]; exact List.mem_map_of_mem (f := Prod.snd) h
      · rw [← M2.out]; exact List.mem_map_of_mem (f := Prod.snd) h
    exact (HRS.out.2 m hm).1)
  have S46 : w4.heap.size ≤ w8.heap.size := Nat.le_trans S5 (Nat.le_trans S6 S8)
  go_wp2_with (first
    | (show wpList _ _ _ (⟨some 73, _, _, _, _, _⟩ :: _) _ _; refine apRO rfl (.tmp 71) (.tmp 72) rfl W.heap.size (.slice none 0 0) [] rfl ((OwnRR.nil _ _).o) rs1 T1.out.own (fun i x m hi g hg => ⟨by simp [Value.ownBlock], fun j y k hj => by simp at hj⟩) T1.out.apart a1 N c1 rfl HLN.out.1 K1 T1.out.cellsAt (by simp; omega) B8.out.size ?_
       intro v9 w9 h9
       have T9 := Lib.hid (T2.out.keep (w' := w9) (fun g hg => h9.out.2.1.block g (T2.out.block g hg).2 (by simp [Value.ownBlock])) (fun i x m hi g hg => h9.out.2.1.block g ((T2.out.own i x m hi).block g hg).2 (by simp [Value.ownBlock])))
       have O9 := Lib.hid (show (∀ (i : Nat) (x : Value) (m : List Int), rs2[i]? = some (x, m) → ∀ g, x.ownBlock = some g → v9.ownBlock ≠ some g ∧ ∀ (j : Nat) (y : Value) (k : List Int), ([] ++ rs1)[j]? = some (y, k) → y.ownBlock ≠ some g) from fun i x m hi g hg => ⟨fun hv => by
         have h1 := (HAP.out i x m hi g hg).1
         rcases h9.out.2.2 with h2 | h2
         · rw [h2] at hv
           simp [Value.ownBlock] at hv
         · rw [h2] at hv
           injection hv with hv
           omega, fun j y k hj => (HAP.out i x m hi g hg).2 j y k (by simpa using hj)⟩)
       have B9 := Lib.hid (B8.out.grown h9.out.2.1 B8.out.size (fun g hg => by simp [Value.ownBlock] at hg)))
    | (show wpList _ _ _ (⟨some 76, _, _, _, _, _⟩ :: _) _ _; refine apRO rfl (.tmp 74) (.tmp 75) rfl W.heap.size v9 ([] ++ rs1) rfl h9.out.1 rs2 T9.out.own O9.out T9.out.apart a2 N c2 rfl HLN.out.2 K2 T9.out.cellsAt (by simp [HLN.out.1]; omega) B9.out.size ?_
       intro v10 w10 h10
       have B10 := Lib.hid (B9.out.grown h10.out.2.1 B9.out.size (fun g hg => (h9.out.1.block g hg).1))))
  obtain ⟨R, ra, cc, rfl, hra, hRA, hRlt⟩ := h10.out.1.rowsAt (by have := h10.out.2.1.size; have := h9.out.2.1.size; omega)
  refine (sownedO_any W.heap.size R 0 cc _ ra _ w10 hRA rfl hra B10.out.size hRlt (fun i v L hi => by
    have h1 := List.mem_of_getElem? hi
    have h2 := HM.out v L (by simpa using h1)
    omega) (by simp [HLN.out.1, HLN.out.2]; omega)).mono ?_
  rintro e' w11 ⟨rfl, b11⟩
  have B11 := Lib.hid (B10.out.trans b11)
  clear b11
  go_wp2_with fail
  go_ret
  exact ⟨rfl, B11.out⟩
end Go.Proofs.YtophhnolnlbecaaDoor
