/- The document's own journal: epoch, put, Frame. The document's own journal: where a frame begins, whether one stands. The program's journal: an epoch, a number put into a row, where a frame begins, a sector stamped. No statement is proved here. -/
import Derived.Test.YtophhnolnlbecaaDoorQ9
import Derived.Test.YtophhnolnlbecaaDoorQ4
import Derived.BigRegion
import Derived.Test.YtophhnolnlbecaaDoorQ19
import Derived.Test.YtophhnolnlbecaaDoorQ20
import Derived.Test.YtophhnolnlbecaaDoorQ17
import Derived.Test.YtophhnolnlbecaaDoorQ12
namespace Go.Proofs.YtophhnolnlbecaaDoor
open Go.RowKit
set_option maxRecDepth 100000

theorem repoch_any (e : Int) (w : World) : Calls Tryd.prog 38 #[.int .i64 e] w fun en w' => en = .returned (.bool (decide (jOk e))) ∧ w = w' := by
  by_cases h1 : 1 ≤ e
  · by_cases h2 : e ≤ 1099511627776
    · rw [decide_eq_true (show jOk e from ⟨h1, h2⟩)]
      go_enter Tryd.func38, Tryd.ntmps38
      go_wp2_with fail
      go_ret
      exact ⟨rfl, rfl⟩
    · rw [decide_eq_false (show ¬ jOk e from fun h => h2 h.2)]
      go_enter Tryd.func38, Tryd.ntmps38
      go_wp2_with fail
      go_ret
      exact ⟨by first | rfl | exact ret_bool (decide_eq_false (by omega)), rfl⟩
  · rw [decide_eq_false (show ¬ jOk e from fun h => h1 h.1)]
    go_enter Tryd.func38, Tryd.ntmps38
    go_wp2_with fail
    go_ret
    exact ⟨by first | rfl | exact ret_bool (decide_eq_false (by omega)), rfl⟩
theorem numE_good {n : Int} {s : Nat} (h1 : 1 ≤ s) (h8 : s ≤ 8) (h0 : 0 ≤ n) (hn : n < 256 ^ s) : numE n s = 0 := by
  have hk : okN n s = true := decide_eq_true ⟨by omega, by omega, h0, by rw [Int.toNat_natCast]; exact Int.ediv_eq_zero_of_lt h0 hn⟩
  rw [numE, hk]
  rfl
set_option maxHeartbeats 4000000 in
theorem rput_any (B : Nat) (v : Value) (l : List Int) (n sz : Int) (s : Nat) (hsz : sz = (s : Int)) (w : World) (hown : OwnB w B v l) (h1 : 1 ≤ s) (h8 : s ≤ 8) (h0 : 0 ≤ n) (hn : n < 256 ^ s) (hok : okInt n) (hl : l.length + 8 ≤ 140737488355328) (hB : B ≤ w.heap.size) :
    Calls Tryd.prog 39 #[v, .int .i64 n, .int .i64 sz] w fun e w' => ∃ v', e = .returned v' ∧ Grew B w w' v v' (l ++ leB s n) := by
  have HN := Lib.hid (refNumber_any n sz hok w)
  unfold NumTo at HN
  rw [hsz, numL_ok h1 h8 h0 hn, numE_good h1 h8 h0 hn, ← hsz] at HN
  have HO := Lib.hid hown
  have HS := Lib.hid hsz
  clear hown hn h0 hsz
  go_enter Tryd.func39, Tryd.ntmps39
  go_wp2_with fail
  refine HN.out.mono ?_
  rintro e w2 ⟨v2, rfl, o2, b2⟩
  obtain ⟨a2, c2, rfl, i2, n2, -, -⟩ := o2.shape
  rw [leB_len]
  have H2 := Lib.hid (And.intro i2 (And.intro n2 (And.intro b2 (HO.out.then_ b2))))
  clear o2 i2 n2 b2
  go_wp2_with (at_builtin; refine apR rfl (.tmp 15) (.tmp 16) rfl B v l rfl H2.out.2.2.2 _ _ _ (leB s n) rfl (leB_len _ _) H2.out.1 H2.out.2.1 (by omega) (Nat.le_trans hB H2.out.2.2.1.size) ?_; intro v3 w3 hg; have G3 := Lib.hid (hg.pre H2.out.2.2.1); clear hg)
  go_ret
  exact ⟨v3, rfl, G3.out⟩
/-- What Frame tells. -/
def FrTo (e num : Int) (l : List Int) (w : World) (en : Ending) (w' : World) : Prop := ∃ v, en = .returned (.tuple #[v, .int .i64 (frE e num l.length)]) ∧ OwnB w' w.heap.size v (frL e num l) ∧ Below w.heap.size w w'
theorem FrTo.bad {e num : Int} {l : List Int} {w : World} {k : Int} (h : frE e num l.length = k) (hk : k ≠ 0) : FrTo e num l w (.returned (.tuple #[.slice none 0 0, .int .i64 k])) w :=
  ⟨_, by rw [h], by unfold frL; rw [h, if_neg hk]; exact OwnB.nil _ _, Below.refl _ _⟩
theorem jHead_byte (e num : Int) (l : List Int) : isB (jHead e num l) := (leB_byte _ _).append2 ((leB_byte _ _).append2 (leB_byte _ _))
theorem jFrame_byte {e num : Int} {l : List Int} (h : isB l) : isB (jFrame e num l) := (jHead_byte _ _ _).append2 ((leB_byte _ _).append2 h)
theorem frL_byte {e num : Int} {l : List Int} (h : isB l) : isB (frL e num l) := by
  unfold frL
  split
  · exact jFrame_byte h
  · exact isB.nil
set_option maxHeartbeats 8000000 in
theorem rframe_any (e num : Int) (la : Option Addr) (n c : Nat) (l : List Int) (w : World) (he : okInt e) (hnum : okInt num) (hin : InB w la l) (hB : isB l) (hn : l.length = n) (hl : n ≤ 140737488351232) (hnil : la = none → c = 0 ∧ l = []) :
    Calls Tryd.prog 13 #[.int .i64 e, .int .i64 num, .slice la n c] w (FrTo e num l w) := by
  have HA := Lib.hid (And.intro hin (And.intro hB (And.intro hn hnil)))
  have HEp := Lib.hid (repoch_any e w)
  unfold okInt at he hnum
  by_cases c1 : jOk e
  rotate_left
  · have HE := Lib.hid (show FrTo e num l w (.returned (.tuple #[.slice none 0 0, .int .i64 1])) w from FrTo.bad (by unfold frE; rw [if_pos (.inl c1)]) (by decide))
    rw [decide_eq_false c1] at HEp
    clear c1 hin hB hn hnil
    go_enter Tryd.func13, Tryd.ntmps13
    go_wp2_with fail
    refine HEp.out.mono ?_
    rintro en w' ⟨rfl, rfl⟩
    go_wp2_with fail
    go_ret2
    exact HE.out
  have C1 := Lib.hid c1
  rw [decide_eq_true c1] at HEp
  by_cases c2 : num < 0 ∨ 2147483648 ≤ num
  · have HE := Lib.hid (show FrTo e num l w (.returned (.tuple #[.slice none 0 0, .int .i64 1])) w from FrTo.bad (by unfold frE; rw [if_pos (.inr c2)]) (by decide))
    clear c1 hin hB hn hnil
    have c2' : num < 0 ∨ (0 ≤ num ∧ 2147483648 ≤ num) := by omega
    clear c2
    rcases c2' with c2 | ⟨c2, c3⟩
    all_goals
      go_enter Tryd.func13, Tryd.ntmps13
      go_wp2_with fail
      refine HEp.out.mono ?_
      rintro en w' ⟨rfl, rfl⟩
      go_wp2_with fail
      go_ret2
      exact HE.out
  have hn0 : 0 ≤ num := by omega
  have hn1 : num < 2147483648 := by omega
  by_cases c3 : 268435456 < n
  · have HE := Lib.hid (show FrTo e num l w (.returned (.tuple #[.slice none 0 0, .int .i64 2])) w from FrTo.bad (by unfold frE; rw [if_neg (by intro h; rcases h with h | h; exact h c1; exact c2 h), hn, if_pos c3]) (by decide))
    clear c1 c2 hin hB hn hnil
    go_enter Tryd.func13, Tryd.ntmps13
    go_wp2_with fail
    refine HEp.out.mono ?_
    rintro en w' ⟨rfl, rfl⟩
    go_wp2_with fail
    go_ret2
    exact HE.out
  have hE0 : frE e num l.length = 0 := by unfold frE; rw [if_neg (by intro h; rcases h with h | h; exact h c1; exact c2 h), hn, if_neg c3]
  have HE := Lib.hid (show frE e num l.length = 0 ∧ frL e num l = jFrame e num l from ⟨hE0, by unfold frL; rw [if_pos hE0]⟩)
  have p4 : (256 : Int) ^ 4 = 4294967296 := by decide
  have p8 : (256 : Int) ^ 8 = 18446744073709551616 := by decide
  have hj := c1
  unfold jOk at hj
  have HP1 := Lib.hid (rput_any w.heap.size (.slice none 0 0) [] (n : Int) 4 4 rfl w (OwnB.nil _ _) (by omega) (by omega) (by omega) (by omega) (by unfold okInt; omega) (by simp) (Nat.le_refl _))
  have HP2 := Lib.hid (fun v l' w' (ho : OwnB w' w.heap.size v l') (hl' : l'.length ≤ 64) (hb : w.heap.size ≤ w'.heap.size) => rput_any w.heap.size v l' e 8 8 rfl w' ho (by omega) (by omega) (by omega) (by omega) (by unfold okInt; omega) (by omega) hb)
  have HP3 := Lib.hid (fun v l' w' (ho : OwnB w' w.heap.size v l') (hl' : l'.length ≤ 64) (hb : w.heap.size ≤ w'.heap.size) => rput_any w.heap.size v l' num 4 4 rfl w' ho (by omega) (by omega) (by omega) (by omega) (by unfold okInt; omega) (by omega) hb)
  have hms := moreP_rng0 (show isB (jHead e num l ++ l) from (jHead_byte _ _ _).append2 hB)
  have HP4 := Lib.hid (fun v l' w' (ho : OwnB w' w.heap.size v l') (hl' : l'.length ≤ 64) (hb : w.heap.size ≤ w'.heap.size) => rput_any w.heap.size v l' (moreP 0 (jHead e num l ++ l)) 4 4 rfl w' ho (by omega) (by omega) hms.1 (by omega) (by unfold okInt; omega) (by omega) hb)
  have HLn := Lib.hid (show ([] ++ leB 4 (n : Int)) ++ leB 8 e ++ leB 4 num = jHead e num l by unfold jHead; rw [hn]; simp)
  have hn2 : n ≤ 268435456 := by omega
  clear c1 c2 c3 hms hj hin hB hnil p4 p8 hE0
  go_enter Tryd.func13, Tryd.ntmps13
  go_wp2_with fail
  refine HEp.out.mono ?_
  rintro en w' ⟨rfl, rfl⟩
  go_wp2_with fail
  refine HP1.out.mono ?_
  rintro en w1 ⟨v1, rfl, g1⟩
  have G1 := Lib.hid g1
  clear g1
  go_wp2_with fail
  refine (HP2.out v1 _ w1 G1.out.own (by simp [leB_len]) G1.out.size).mono ?_
  rintro en w2 ⟨v2, rfl, g2⟩
  have G2 := Lib.hid (G1.out.trans g2)
  clear g2
  go_wp2_with fail
  refine (HP3.out v2 _ w2 G2.out.own (by simp [leB_len]) G2.out.size).mono ?_
  rintro en w3 ⟨v3, rfl, g3⟩
  rw [HLn.out] at g3
  have G3 := Lib.hid (G2.out.trans g3)
  have B3 := Lib.hid (G3.out.below (OwnB.nil _ _) (Below.refl w.heap.size w) (Nat.le_refl _) (Nat.le_refl _))
  clear g3 HP1 HP2 HP3 HEp
  obtain ⟨a3, c3, rfl, i3, n3, -, -⟩ := G3.out.own.shape
  rw [jHead_len]
  have I3 := Lib.hid (And.intro i3 n3)
  clear i3 n3
  go_wp2_with (first
    | (show wpList _ _ _ (⟨some 37, _, _, _, _, _⟩ :: _) _ _; refine apR rfl (.tmp 35) (.tmp 36) rfl w3.heap.size (.slice none 0 0) [] rfl (OwnB.nil _ _) _ _ _ (jHead e num l) rfl (jHead_len _ _ _) I3.out.1 I3.out.2 (by simp) (Nat.le_refl _) ?_; intro v4 w4 hg; have G4 := Lib.hid hg; have B4 := Lib.hid (hg.below (OwnB.nil _ _) (Below.refl w3.heap.size w3) (Nat.le_refl _) (Nat.le_refl _)); clear hg)
    | (show wpList _ _ _ (⟨some 40, _, _, _, _, _⟩ :: _) _ _; refine apR rfl (.tmp 38) (.tmp 39) rfl w3.heap.size v4 _ rfl G4.out.own _ _ _ l rfl HA.out.2.2.1 (HA.out.1.then_ (below_then B3.out B4.out)) HA.out.2.2.2 (by simp [jHead_len]; omega) B4.out.size ?_; intro v5 w5 hg; have B5 := Lib.hid (hg.below G4.out.own B4.out (Nat.le_refl _) B4.out.size); have O5 := Lib.hid hg.own; clear hg))
  obtain ⟨a5, c5, rfl, i5, -⟩ := O5.out.shape
  have hl5 : (jHead e num l ++ l).length ≤ 140737488351232 := by rw [List.length_append, jHead_len, HA.out.2.2.1]; omega
  refine (refSum_any a5 c5 _ _ w5 (by simpa using i5) ((jHead_byte _ _ _).append2 HA.out.2.1) (by simp) (by simpa using hl5)).mono ?_
  rintro en w' ⟨rfl, rfl⟩
  go_wp2_with fail
  refine (HP4.out _ _ w5 (G3.out.own.then_ B5.out) (by simp [jHead_len]) (Nat.le_trans B3.out.size B5.out.size)).mono ?_
  rintro en w6 ⟨v6, rfl, g6⟩
  have O6 := Lib.hid g6.own
  have B6 := Lib.hid (g6.below (G3.out.own.then_ B5.out) (below_then B3.out B5.out) (Nat.le_refl _) (Nat.le_trans B3.out.size B5.out.size))
  clear g6 HP4 i5 hl5
  go_wp2_with (show wpList _ _ _ (⟨some 47, _, _, _, _, _⟩ :: _) _ _; refine apR rfl (.tmp 45) (.tmp 46) rfl w.heap.size v6 _ rfl O6.out _ _ _ l rfl HA.out.2.2.1 (HA.out.1.then_ B6.out) HA.out.2.2.2 (by simp [jHead_len, leB_len]; omega) B6.out.size ?_; intro v7 w7 hg; have B7 := Lib.hid (hg.below O6.out B6.out (Nat.le_refl _) B6.out.size); have O7 := Lib.hid hg.own; clear hg)
  have HX := Lib.hid (show FrTo e num l w (.returned (.tuple #[v7, .int .i64 0])) w7 from ⟨v7, by rw [HE.out.1], by rw [HE.out.2]; unfold jFrame; have h := O7.out; simpa using h, B7.out⟩)
  go_ret2
  exact HX.out
end Go.Proofs.YtophhnolnlbecaaDoor
namespace Go.Proofs.YtophhnolnlbecaaDoor
open Go.RowKit
set_option maxRecDepth 100000

/-- A part of a row of bytes, wherever its address lies. -/
theorem run_slB (b o n c i j : Nat) (lo hi : Int) (hlo : lo = i) (hhi : hi = j) (hij : i ≤ j) (hjc : j ≤ c) : ∃ a', (∀ w, (Instr.slice 22 (.slice (some ⟨b, o, none⟩) n c) (some (.int .i64 lo)) (some (.int .i64 hi)) none).run Tryd.prog w = .ok (.slice (some a') (j - i) (c - i)) w) ∧
    ∀ (w : World) (l : List Int), InB w (some ⟨b, o, none⟩) l → InB w (some a') ((l.drop i).take (j - i)) := by
  subst hlo hhi
  by_cases hne : c = i
  · refine ⟨⟨b, o, none⟩, fun w => ?_, fun w l h => ?_⟩
    · rw [run_slice_lh w 22 _ _ _ (by kernel_rfl) .i64 .i64 _ _ (by omega) (by omega) (by omega)]
      rw [show sizeOf (Tryd.prog.elem 22) = sizeOf 5 from rfl]
      have e1 : (j : Int).toNat = j := by omega
      have e2 : (i : Int).toNat = i := by omega
      simp [go_sem, sliced, hne, e1, e2]
    · rw [show j - i = 0 by omega, List.take_zero]
      intro k x hx
      simp at hx
  · refine ⟨⟨b, o + i, none⟩, fun w => ?_, fun w l h => (h.from i).take_ (j - i)⟩
    rw [run_slice_lh w 22 _ _ _ (by kernel_rfl) .i64 .i64 _ _ (by omega) (by omega) (by omega)]
    rw [show sizeOf (Tryd.prog.elem 22) = sizeOf 5 from rfl]
    have e1 : (j : Int).toNat = j := by omega
    have e2 : (i : Int).toNat = i := by omega
    simp [go_sem, sliced, hne, e1, e2]
theorem rbegins_any (n : Nat) (h : n ≤ 9223372036854770000) (w : World) : Calls Tryd.prog 45 #[.int .i64 (n : Int)] w fun en w' => en = .returned (.int .i64 (begins n : Int)) ∧ w = w' := by
  by_cases c : 484 < n % 504
  · have hb := Lib.hid (show begins n = (n / 504 + 1) * 504 by unfold begins; rw [if_pos c])
    have q : (484 : Int) < (n : Int) % 504 := by omega
    have e1 : (n : Int).tmod 504 = (n : Int) % 504 := Int.tmod_eq_emod_of_nonneg (by omega)
    have e2 : (n : Int).tdiv 504 = (n : Int) / 504 := Int.tdiv_eq_ediv_of_nonneg (by omega)
    go_enter Tryd.func45, Tryd.ntmps45
    go_wp2_with fail
    go_ret
    exact ⟨by rw [hb.out]; push_cast; rfl, rfl⟩
  · have hb := Lib.hid (show begins n = n by unfold begins; rw [if_neg c])
    have q : ¬ (484 : Int) < (n : Int) % 504 := by omega
    have e1 : (n : Int).tmod 504 = (n : Int) % 504 := Int.tmod_eq_emod_of_nonneg (by omega)
    go_enter Tryd.func45, Tryd.ntmps45
    go_wp2_with fail
    go_ret
    exact ⟨by rw [hb.out]; rfl, rfl⟩
theorem strEq {a b : List Int} (ha : isB a) (hb : isB b) : ((strOfNums a).toList == (strOfNums b).toList) = decide (a = b) := by
  by_cases h : a = b
  · rw [h, decide_eq_true rfl]
    exact beq_self_eq_true _
  · rw [decide_eq_false h]
    apply Bool.eq_false_iff.2
    intro e
    have e2 := eq_of_beq e
    rw [ByteArray.toList_eq, ByteArray.toList_eq] at e2
    have e3 : bsI (strOfNums a) = bsI (strOfNums b) := by unfold bsI; rw [e2]
    rw [bsI_str ha, bsI_str hb] at e3
    exact h e3
set_option maxHeartbeats 8000000 in
theorem rstands_any (e num : Int) (la : Option Addr) (n c : Nat) (l : List Int) (w : World) (he : okInt e) (hnum : okInt num) (hin : InB w la l) (hB : isB l) (hn : l.length = n) (hc : n ≤ c) (hl : n ≤ 140737488351232) :
    Calls Tryd.prog 46 #[.slice la n c, .int .i64 e, .int .i64 num] w fun en w' => en = .returned (.int .i64 (standsN l e num : Int)) ∧ Below w.heap.size w w' := by
  have HA := Lib.hid (And.intro hin (And.intro hB hn))
  by_cases c1 : n < 20
  · have HE := Lib.hid (show standsN l e num = 0 by unfold standsN; rw [if_pos (by omega)])
    clear hin hB hn
    go_enter Tryd.func46, Tryd.ntmps46
    go_wp2_with fail
    go_ret
    exact ⟨by rw [HE.out]; rfl, Below.refl _ _⟩
  obtain ⟨b, o, x0, rfl, -, -⟩ := hin.one (i := 0) (by omega)
  have HR := Lib.hid (refRead_any (some ⟨b, o, none⟩) c n l 0 4 w hin hB hn hl (by unfold okInt; omega) (by unfold okInt; omega))
  unfold ReadTo at HR
  have hp0 : 0 ≤ readP l 0 4 := by
    unfold readP
    split
    · exact (valB_le ((hB.drop _).take' _)).1
    · exact Int.le_refl _
  have hS := Lib.hid (show standsN l e num = if n - 20 < (readP l 0 4).toNat ∨ 268435456 < (readP l 0 4).toNat then 0 else if frL e num ((l.drop 20).take (readP l 0 4).toNat) = l.take (20 + (readP l 0 4).toNat) then 20 + (readP l 0 4).toNat else 0 by unfold standsN; rw [if_neg (by omega), hn])
  obtain ⟨m, hm⟩ := Int.eq_ofNat_of_zero_le hp0
  rw [hm] at HR hS
  rw [Int.toNat_natCast] at hS
  clear hm hp0 hin hB hn
  generalize readE l 0 4 = er at HR
  by_cases c2 : n - 20 < m ∨ 268435456 < m
  · have HE := Lib.hid (show standsN l e num = 0 by rw [hS.out, if_pos c2])
    have c2' : ((n : Int) - 20 < m) ∨ (¬ ((n : Int) - 20 < m) ∧ 268435456 < m) := by omega
    clear c2
    rcases c2' with c2 | ⟨c2, c3⟩
    all_goals
      go_enter Tryd.func46, Tryd.ntmps46
      go_wp2_with fail
      refine HR.out.mono ?_
      rintro en w' ⟨rfl, rfl⟩
      go_wp2_with fail
      go_ret
      exact ⟨by rw [HE.out]; rfl, Below.refl _ _⟩
  have c3 : m + 20 ≤ n := by omega
  have c4 : m ≤ 268435456 := by omega
  obtain ⟨a', hsl, hia⟩ := run_slB b o n c 20 (20 + m) 20 (20 + (m : Int)) rfl (by omega) (by omega) (by omega)
  rw [show 20 + m - 20 = m by omega] at hsl hia
  have HIA := Lib.hid hia
  have HL2 : Hid (((l.drop 20).take m).length = m) := Lib.hid (by rw [List.length_take, List.length_drop, HA.out.2.2]; omega)
  have HFr := Lib.hid (rframe_any e num (some a') m (c - 20) ((l.drop 20).take m) w he hnum (hia w l HA.out.1) ((HA.out.2.1.drop _).take' _) HL2.out (by omega) (fun e => by cases e))
  have HT := Lib.hid (show (l.take (20 + m)).length = 20 + m by rw [List.length_take, HA.out.2.2]; omega)
  have hEq := Lib.hid (strEq (frL_byte (e := e) (num := num) ((HA.out.2.1.drop 20).take' m)) (HA.out.2.1.take' (20 + m)))
  rw [if_neg c2] at hS
  unfold FrTo at HFr
  generalize frL e num ((l.drop 20).take m) = F at *
  generalize frE e num ((l.drop 20).take m).length = fe at *
  have q1 : ¬ ((n : Int) - 20 < m) := by omega
  have q2 : ¬ (268435456 : Int) < (m : Int) := by omega
  clear c1 c2 hia
  go_enter Tryd.func46, Tryd.ntmps46
  go_wp2_with fail
  refine HR.out.mono ?_
  rintro en w' ⟨rfl, rfl⟩
  go_wp2_with fail
  refine HFr.out.mono ?_
  rintro en w2 ⟨v2, rfl, o2, b2⟩
  have B2 := Lib.hid b2
  obtain ⟨a2, c2, rfl, i2, n2, -, -⟩ := o2.shape
  have s1 := run_str w2.drew a2 F.length c2 F rfl (i2.then_ (Below.refl _ w2).drew) (fun h => (n2 h).2)
  have s2 := run_str w2.drew (some ⟨b, o, none⟩) (20 + m) c (l.take (20 + m)) HT.out ((HA.out.1.then_ (below_then B2.out (Below.refl _ w2).drew)).take_ (20 + m)) (fun h => by cases h)
  clear o2 i2 n2 b2
  generalize strOfNums F = S1 at *
  generalize strOfNums (l.take (20 + m)) = S2 at *
  by_cases hx : F = l.take (20 + m)
  · have q := hEq.out
    rw [decide_eq_true hx] at q
    have HE := Lib.hid (show standsN l e num = 20 + m by rw [hS.out, if_pos hx])
    clear hx
    go_wp2_with fail
    go_region
    go_wp2_with fail
    go_ret
    exact ⟨by rw [HE.out]; push_cast; rfl, B2.out.drew⟩
  · have q := hEq.out
    rw [decide_eq_false hx] at q
    have HE := Lib.hid (show standsN l e num = 0 by rw [hS.out, if_neg hx])
    clear hx
    go_wp2_with fail
    go_region
    go_wp2_with fail
    go_ret
    exact ⟨by rw [HE.out]; rfl, B2.out.drew⟩
end Go.Proofs.YtophhnolnlbecaaDoor
namespace Go.Proofs.YtophhnolnlbecaaDoor
open Go.RowKit
set_option maxRecDepth 100000

theorem pepoch_any (e : Int) (w : World) : Calls Tryd.prog 34 #[.int .i64 e] w fun en w' => en = .returned (.bool (decide (jOk e))) ∧ w = w' := by
  by_cases h1 : 1 ≤ e
  · by_cases h2 : e ≤ 1099511627776
    · rw [decide_eq_true (show jOk e from ⟨h1, h2⟩)]
      go_enter Tryd.func34, Tryd.ntmps34
      go_wp2_with fail
      go_ret
      exact ⟨rfl, rfl⟩
    · rw [decide_eq_false (show ¬ jOk e from fun h => h2 h.2)]
      go_enter Tryd.func34, Tryd.ntmps34
      go_wp2_with fail
      go_ret
      exact ⟨by first | rfl | exact ret_bool (decide_eq_false (by omega)), rfl⟩
  · rw [decide_eq_false (show ¬ jOk e from fun h => h1 h.1)]
    go_enter Tryd.func34, Tryd.ntmps34
    go_wp2_with fail
    go_ret
    exact ⟨by first | rfl | exact ret_bool (decide_eq_false (by omega)), rfl⟩
theorem pbegin_any (n : Nat) (h : n ≤ 9223372036854770000) (w : World) : Calls Tryd.prog 42 #[.int .i64 (n : Int)] w fun en w' => en = .returned (.int .i64 (begins n : Int)) ∧ w = w' := by
  have e1 : (n : Int).tmod 504 = (n : Int) % 504 := Int.tmod_eq_emod_of_nonneg (by omega)
  by_cases c : 484 < n % 504
  · have hb := Lib.hid (show (begins n : Int) = (n : Int) + (504 - (n : Int) % 504) by unfold begins; rw [if_pos c]; omega)
    have q : (504 : Int) - (n : Int) % 504 < 20 := by omega
    go_enter Tryd.func42, Tryd.ntmps42
    go_wp2_with fail
    go_ret
    exact ⟨by rw [hb.out]; rfl, rfl⟩
  · have hb := Lib.hid (show begins n = n by unfold begins; rw [if_neg c])
    have q : ¬ (504 : Int) - (n : Int) % 504 < 20 := by omega
    go_enter Tryd.func42, Tryd.ntmps42
    go_wp2_with fail
    go_ret
    exact ⟨by rw [hb.out]; rfl, rfl⟩
set_option maxHeartbeats 4000000 in
theorem pput_any (g k s c : Nat) (L : List Int) (n : Int) (w : World) (B : Nat) (hf : FullAt w g L) (h1 : 1 ≤ s) (h8 : s ≤ 8) (h0 : 0 ≤ n) (hn : n < 256 ^ s) (hok : okInt n) (hk : k + s ≤ L.length) (hB : B ≤ g) :
    Calls Tryd.prog 35 #[.slice (some ⟨g, k, none⟩) s c, .int .i64 n] w fun en w' => en = .returned (.tuple #[]) ∧ Hid (FullAt w' g (spl L k (leB s n))) ∧ Below B w w' := by
  have HN := Lib.hid (pnumber_any n (s : Int) hok (by unfold okInt; omega) w)
  unfold NumTo at HN
  rw [numL_ok h1 h8 h0 hn, numE_good h1 h8 h0 hn] at HN
  have HF := Lib.hid hf
  have hlt := hf.lt
  clear hf hn h0 hok
  go_enter Tryd.func35, Tryd.ntmps35
  go_wp2_with fail
  refine HN.out.mono ?_
  rintro en w2 ⟨v2, rfl, o2, b2⟩
  obtain ⟨a2, c2, rfl, i2, n2, -, -⟩ := o2.shape
  rw [leB_len] at *
  have H2 := Lib.hid (And.intro i2 (And.intro (b2.mono (show B ≤ w.heap.size by omega)) (HF.out.then_ b2)))
  clear o2 i2 n2 b2
  go_wp2_with (show wpList _ _ _ (⟨some 15, _, _, _, _, _⟩ :: _) _ _; refine cpF (o := ⟨some 15, _, _, _, _, _⟩) rfl (.tmp 13) (.tmp 14) rfl g k s c L H2.out.2.2 rfl a2 s c2 (leB s n) rfl (leB_len _ _) (Nat.le_refl _) H2.out.1 hk B w H2.out.2.1 hB ?_; intro w3 f3 b3; have H3 := Lib.hid (And.intro f3 b3); clear f3 b3)
  exact ⟨rfl, .tuple #[], results_void rfl _ _, rfl, H3.out.1, H3.out.2⟩
/-- A row of nothing but zeros. -/
theorem make_full (n : Nat) (hn : n ≤ 140737488351232) (w : World) : (Instr.makeSlice 22 (.int .i64 (n : Int)) (.int .i64 (n : Int))).run Tryd.prog w = .ok (.slice (some ⟨w.heap.size, 0, none⟩) n n) (w.alloc (.cells (zeroV n).toArray 5)) ∧ FullAt (w.alloc (.cells (zeroV n).toArray 5)) w.heap.size (List.replicate n 0) :=
  ⟨make_zero n hn w, by unfold FullAt; rw [← zeroV_bt]; exact heap_alloc_new w _⟩
theorem spl_two {a b : Nat} {x y : List Int} (hx : x.length = a) (hy : y.length ≤ b) : spl (spl (List.replicate (a + b) 0) 0 x) a y = x ++ (y ++ List.replicate (b - y.length) 0) := by
  unfold spl
  rw [List.take_zero, List.nil_append, Nat.zero_add, hx, List.drop_replicate, List.take_left' hx]
  congr 2
  rw [← List.drop_drop, List.drop_left' hx, List.drop_replicate]
  congr 1
  omega
set_option maxHeartbeats 4000000 in
theorem pstamped_any (e : Int) (la : Option Addr) (n c : Nat) (p : List Int) (w : World) (he : jOk e) (hin : InB w la p) (hn : p.length = n) (h504 : n ≤ 504) :
    Calls Tryd.prog 52 #[.int .i64 e, .slice la n c] w fun en w' => en = .returned (.slice (some ⟨w.heap.size, 0, none⟩) 512 512) ∧ FullAt w' w.heap.size (stampL e p) ∧ Below w.heap.size w w' := by
  unfold jOk at he
  have hmk : (Instr.makeSlice 22 (.int .i64 512) (.int .i64 512)).run Tryd.prog w = .ok (.slice (some ⟨w.heap.size, 0, none⟩) 512 512) (w.alloc (.cells (zeroV 512).toArray 5)) := by
    have := (make_full 512 (by omega) w).1
    simpa using this
  have HF := Lib.hid (make_full 512 (by omega) w).2
  have B1 := Lib.hid (below1 w (.cells (zeroV 512).toArray 5))
  have HI := Lib.hid (And.intro hin hn)
  have HP := Lib.hid (pput_any w.heap.size 0 8 512 _ e _ w.heap.size HF.out (by omega) (by omega) (by omega) (by rw [show (256 : Int) ^ 8 = 18446744073709551616 by decide]; omega) (by unfold okInt; omega) (by rw [List.length_replicate]; omega) (Nat.le_refl _))
  clear hin hn
  go_enter Tryd.func52, Tryd.ntmps52
  go_wp2_with fail
  refine HP.out.mono ?_
  rintro en w2 ⟨rfl, f2, b2⟩
  have H2 := Lib.hid (And.intro f2.out (B1.out.trans b2))
  clear f2 b2 hmk
  have hl8 : (spl (List.replicate 512 (0 : Int)) 0 (leB 8 e)).length = 512 := by rw [spl_len (by rw [leB_len, List.length_replicate]; omega), List.length_replicate]
  have HL := Lib.hid hl8
  have HE := Lib.hid (show spl (spl (List.replicate 512 0) 0 (leB 8 e)) 8 p = stampL e p from spl_two (a := 8) (b := 504) (leB_len _ _) (by rw [HI.out.2]; exact h504))
  clear hl8
  go_wp2_with (show wpList _ _ _ (⟨some 14, _, _, _, _, _⟩ :: _) _ _; refine cpF (o := ⟨some 14, _, _, _, _, _⟩) rfl (.tmp 12) (.tmp 13) rfl w.heap.size 8 504 504 _ H2.out.1 rfl la n c p rfl HI.out.2 h504 (HI.out.1.then_ H2.out.2) (by rw [HL.out]; omega) w.heap.size w H2.out.2 (Nat.le_refl _) ?_; intro w3 f3 b3; have H3 := Lib.hid (And.intro (HE.out ▸ f3.out) b3); clear f3 b3)
  go_ret
  exact ⟨rfl, H3.out.1, H3.out.2⟩
theorem pequal_any (a b : Option Addr) (n c m k : Nat) (l r : List Int) (w : World) (ha : InB w a l) (hb : InB w b r) (hl : isB l) (hr : isB r) (hn : l.length = n) (hm : r.length = m) (h0 : a = none → l = []) (h1 : b = none → r = []) :
    Calls Tryd.prog 66 #[.slice a n c, .slice b m k] w fun en w' => en = .returned (.bool (decide (l = r))) ∧ w = w' := by
  have k1 := run_str w a n c l hn ha h0
  have k2 := run_str w b m k r hm hb h1
  have HE := Lib.hid (strEq hl hr)
  generalize strOfNums l = S at *
  generalize strOfNums r = T at *
  clear ha hb hl hr hn hm
  go_enter Tryd.func66, Tryd.ntmps66
  go_wp2_with fail
  go_ret
  exact ⟨by rw [← HE.out]; rfl, rfl⟩
/-- Does a sector bear that stamp? -/
def stampD (r : List Int) (e : Int) : Bool := decide (readE r 0 8 = 0) && decide (readP r 0 8 = e)
theorem stampD_is (r : List Int) (e : Int) : stampD r e = true ↔ stampIs r e := by
  unfold stampD stampIs
  simp
set_option maxHeartbeats 4000000 in
theorem pisStamped_any (e : Int) (la : Option Addr) (n c : Nat) (l : List Int) (w : World) (he : okInt e) (hin : InB w la l) (hB : isB l) (hn : l.length = n) (hc : n ≤ c) (hl : n ≤ 140737488351232) :
    Calls Tryd.prog 56 #[.slice la n c, .int .i64 e] w fun en w' => en = .returned (.bool (stampD l e)) ∧ w = w' := by
  have HR := Lib.hid (pread_any la c n l 0 8 w hin hB hn hl hc (by unfold okInt; omega) (by unfold okInt; omega))
  unfold ReadTo at HR
  clear hin hB hn
  unfold stampD
  generalize readE l 0 8 = E at *
  generalize readP l 0 8 = P at *
  by_cases c1 : E = 0
  · by_cases c2 : P = e
    · subst c1 c2
      go_enter Tryd.func56, Tryd.ntmps56
      go_wp2_with fail
      refine HR.out.mono ?_
      rintro en w2 ⟨rfl, rfl⟩
      go_wp2_with fail
      go_ret
      exact ⟨by simp, rfl⟩
    · subst c1
      have e2 : (P == e) = false := by simp [c2]
      go_enter Tryd.func56, Tryd.ntmps56
      go_wp2_with fail
      refine HR.out.mono ?_
      rintro en w2 ⟨rfl, rfl⟩
      go_wp2_with fail
      go_ret
      exact ⟨by simp [c2], rfl⟩
  · have e2 : (E == 0) = false := by simp [c1]
    go_enter Tryd.func56, Tryd.ntmps56
    go_wp2_with fail
    refine HR.out.mono ?_
    rintro en w2 ⟨rfl, rfl⟩
    go_wp2_with fail
    go_ret
    exact ⟨by simp [c1], rfl⟩
end Go.Proofs.YtophhnolnlbecaaDoor
