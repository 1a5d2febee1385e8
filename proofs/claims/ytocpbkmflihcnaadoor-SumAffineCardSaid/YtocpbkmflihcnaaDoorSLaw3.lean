/- The law SumParts over the contracts. No statement is proved here. -/
import Derived.Test.YtocpbkmflihcnaaDoorSLaw2
namespace Go.Proofs.YtocpbkmflihcnaaDoor
open Go.RowKit
set_option maxRecDepth 100000

theorem moreP_is (l : List Int) : moreP 0 l = ((moreN 0 (natL l) : Nat) : Int) := rfl
theorem moreP_may {l : List Int} (h : isB l) : mayB (moreP 0 l) = true := decide_eq_true (moreP_rng h)
theorem moreP_app {a b : List Int} (ha : isB a) : moreP (moreP 0 a) b = moreP 0 (a ++ b) ∧ moreE (moreP 0 a) = 0 := by
  constructor
  · have h := moreP_may ha
    rw [moreP_is] at h ⊢
    rw [moreP_is, natL_append, moreN_append]
    generalize moreN 0 (natL a) = A at *
    unfold moreP
    rw [h, if_pos rfl, Int.toNat_natCast]
  · unfold moreE
    rw [moreP_may ha]; rfl
theorem joinP_app {a b : List Int} (ha : isB a) (hb : isB b) {n : Nat} (hn : b.length = n) : joinP (moreP 0 a) (moreP 0 b) n = moreP 0 (a ++ b) ∧ joinE (moreP 0 a) (moreP 0 b) n = 0 := by
  have hk : okJ (moreP 0 a) (moreP 0 b) n = true := by
    unfold okJ
    rw [moreP_may ha, moreP_may hb]
    simp
  constructor
  · unfold joinP
    rw [hk, if_pos rfl, moreP_is, moreP_is, moreP_is, Int.toNat_natCast, Int.toNat_natCast, Int.toNat_natCast, natL_append, moreN_join, natL_len, hn]
  · unfold joinE
    rw [hk]; rfl
set_option maxHeartbeats 8000000 in
theorem parts_law {W : World} (P : P11 W) (a : Option Addr) (ca na : Nat) (la : List Int) (b : Option Addr) (cb nb : Nat) (lb : List Int) (c : Option Addr) (cc nc : Nat) (lc : List Int)
    (ha : InB W a la) (hb : InB W b lb) (hc : InB W c lc) (hBa : isB la) (hBb : isB lb) (hBc : isB lc) (hna : la.length = na) (hnb : lb.length = nb) (hnc : lc.length = nc)
    (h0a : a = none → ca = 0 ∧ la = []) (h0b : b = none → cb = 0 ∧ lb = []) (h0c : c = none → cc = 0 ∧ lc = []) (hlen : na + nb + nc ≤ 140737488351232) :
    Calls Tryd.prog 6 #[.slice a na ca, .slice b nb cb, .slice c nc cc] W fun e w' => e = .returned (.bool true) ∧ Below W.heap.size W w' := by
  have HP := Lib.hid (And.intro P (And.intro (And.intro ha (And.intro hb hc)) (And.intro (And.intro hBa (And.intro hBb hBc)) (And.intro (And.intro hna (And.intro hnb hnc)) (And.intro h0a (And.intro h0b h0c))))))
  have hla : la.length ≤ na := by omega
  have hlb : lb.length ≤ nb := by omega
  clear P ha hb hc hBa hBb hBc hna hnb hnc h0a h0b h0c
  go_enter Tryd.func6, Tryd.ntmps6
  go_wp2_with fail
  refine (awake11_any HP.out.1 W (Below.refl _ _)).mono ?_
  rintro e w1 ⟨rfl, b1⟩
  have B1 := Lib.hid b1
  have hz1 := b1.size
  clear b1
  go_wp2_with (first
    | (at_builtin; refine apR rfl (.tmp 27) (.tmp 28) rfl w1.heap.size _ _ rfl (OwnB.nil _ _) a na ca la rfl HP.out.2.2.2.1.1 (HP.out.2.1.1.then_ B1.out) HP.out.2.2.2.2.1 (by simp only [List.length_nil]; omega) (Nat.le_refl _) ?_; intro u1 w2 hg1; have G1 := Lib.hid hg1; have B2 := Lib.hid (hg1.below (OwnB.nil _ _) B1.out hz1 (Nat.le_refl _)); clear hg1)
    | (at_builtin; refine apR rfl (.tmp 30) (.tmp 31) rfl w1.heap.size _ _ rfl G1.out.own b nb cb lb rfl HP.out.2.2.2.1.2.1 (HP.out.2.1.2.1.then_ B2.out) HP.out.2.2.2.2.2.1 (by simp only [List.length_append, List.length_nil]; omega) G1.out.size ?_; intro u2 w3 hg2; have G2 := Lib.hid hg2; have B3 := Lib.hid (hg2.below G1.out.own B2.out hz1 G1.out.size); clear hg2)
    | (at_builtin; refine apR rfl (.tmp 33) (.tmp 34) rfl w1.heap.size _ _ rfl G2.out.own c nc cc lc rfl HP.out.2.2.2.1.2.2 (HP.out.2.1.2.2.then_ B3.out) HP.out.2.2.2.2.2.2 (by simp only [List.length_append, List.length_nil]; omega) (Nat.le_trans G1.out.size G2.out.size) ?_; intro u3 w4 hg3; have G3 := Lib.hid hg3; have B4 := Lib.hid (hg3.below G2.out.own B3.out hz1 (Nat.le_trans G1.out.size G2.out.size)); clear hg3))
  obtain ⟨a3, c3, e3, i3, -, q3, q4⟩ := G3.out.own.shape
  subst e3
  rw [List.nil_append] at i3 q3
  have EL : (([] ++ la ++ lb ++ lc : List Int)).length = na + nb + nc := by simp [HP.out.2.2.2.1.1, HP.out.2.2.2.1.2.1, HP.out.2.2.2.1.2.2]; omega
  rw [EL]
  have I4 := Lib.hid i3
  have HB := HP.out.2.2.1
  have JA := Lib.hid (And.intro HB.1 (And.intro HB.2.1 (And.intro HB.2.2 (And.intro (HB.1.append HB.2.1) (And.intro (HB.2.1.append HB.2.2) ((HB.1.append HB.2.1).append HB.2.2))))))
  have EL2 := Lib.hid (show (la ++ lb ++ lc).length = na + nb + nc by simpa using EL)
  clear EL HB i3 q3 q4
  go_wp2_with fail
  refine (HP.out.1.sum _ _ _ _ _ B4.out (HP.out.2.1.1.then_ B4.out) JA.out.1 HP.out.2.2.2.1.1 (by omega)).mono ?_
  rintro e w5 ⟨rfl, b5⟩
  have B5 := Lib.hid (below_then B4.out b5)
  have I5 := Lib.hid (I4.out.then_ b5)
  clear b5
  go_wp2_with fail
  refine (HP.out.1.sum _ _ _ _ _ B5.out (HP.out.2.1.2.1.then_ B5.out) JA.out.2.1 HP.out.2.2.2.1.2.1 (by omega)).mono ?_
  rintro e w6 ⟨rfl, b6⟩
  have B6 := Lib.hid (below_then B5.out b6)
  have I6 := Lib.hid (I5.out.then_ b6)
  clear b6
  go_wp2_with fail
  refine (HP.out.1.sum _ _ _ _ _ B6.out (HP.out.2.1.2.2.then_ B6.out) JA.out.2.2.1 HP.out.2.2.2.1.2.2 (by omega)).mono ?_
  rintro e w7 ⟨rfl, b7⟩
  have B7 := Lib.hid (below_then B6.out b7)
  have I7 := Lib.hid (I6.out.then_ b7)
  clear b7
  go_wp2_with fail
  refine (HP.out.1.sum _ _ _ _ _ B7.out I7.out JA.out.2.2.2.2.2 EL2.out hlen).mono ?_
  rintro e w8 ⟨rfl, b8⟩
  have B8 := Lib.hid (below_then B7.out b8)
  have I8 := Lib.hid (I7.out.then_ b8)
  clear b8
  go_wp2_with fail
  refine (HP.out.1.more (moreP 0 la) _ _ _ _ _ B8.out (HP.out.2.1.2.1.then_ B8.out) JA.out.2.1 HP.out.2.2.2.1.2.1 (by omega) (moreP_ok JA.out.1)).mono ?_
  rintro e w9 ⟨rfl, b9⟩
  have B9 := Lib.hid (below_then B8.out b9)
  have I9 := Lib.hid (I8.out.then_ b9)
  clear b9
  rw [(moreP_app (b := lb) JA.out.1).1, (moreP_app (b := lb) JA.out.1).2]
  go_wp2_with fail
  refine (HP.out.1.more (moreP 0 (la ++ lb)) _ _ _ _ _ B9.out (HP.out.2.1.2.2.then_ B9.out) JA.out.2.2.1 HP.out.2.2.2.1.2.2 (by omega) (moreP_ok JA.out.2.2.2.1)).mono ?_
  rintro e w10 ⟨rfl, b10⟩
  have B10 := Lib.hid (below_then B9.out b10)
  have I10 := Lib.hid (I9.out.then_ b10)
  clear b10
  rw [(moreP_app (b := lc) JA.out.2.2.2.1).1, (moreP_app (b := lc) JA.out.2.2.2.1).2]
  go_wp2_with fail
  refine (HP.out.1.join (moreP 0 la) (moreP 0 lb) nb _ B10.out (moreP_ok JA.out.1) (moreP_ok JA.out.2.1) (by unfold okInt; omega)).mono ?_
  rintro e w11 ⟨rfl, b11⟩
  have B11 := Lib.hid (below_then B10.out b11)
  have I11 := Lib.hid (I10.out.then_ b11)
  clear b11
  rw [(joinP_app JA.out.1 JA.out.2.1 HP.out.2.2.2.1.2.1).1, (joinP_app JA.out.1 JA.out.2.1 HP.out.2.2.2.1.2.1).2]
  go_wp2_with fail
  refine (HP.out.1.join (moreP 0 (la ++ lb)) (moreP 0 lc) nc _ B11.out (moreP_ok JA.out.2.2.2.1) (moreP_ok JA.out.2.2.1) (by unfold okInt; omega)).mono ?_
  rintro e w12 ⟨rfl, b12⟩
  have B12 := Lib.hid (below_then B11.out b12)
  have I12 := Lib.hid (I11.out.then_ b12)
  clear b12
  rw [(joinP_app JA.out.2.2.2.1 JA.out.2.2.1 HP.out.2.2.2.1.2.2).1, (joinP_app JA.out.2.2.2.1 JA.out.2.2.1 HP.out.2.2.2.1.2.2).2]
  go_wp2_with fail
  refine (HP.out.1.join (moreP 0 lb) (moreP 0 lc) nc _ B12.out (moreP_ok JA.out.2.1) (moreP_ok JA.out.2.2.1) (by unfold okInt; omega)).mono ?_
  rintro e w13 ⟨rfl, b13⟩
  have B13 := Lib.hid (below_then B12.out b13)
  have I13 := Lib.hid (I12.out.then_ b13)
  clear b13
  rw [(joinP_app JA.out.2.1 JA.out.2.2.1 HP.out.2.2.2.1.2.2).1, (joinP_app JA.out.2.1 JA.out.2.2.1 HP.out.2.2.2.1.2.2).2]
  go_wp2_with fail
  refine (HP.out.1.join (moreP 0 la) (moreP 0 (lb ++ lc)) ((nb : Int) + nc) _ B13.out (moreP_ok JA.out.1) (moreP_ok JA.out.2.2.2.2.1) (by unfold okInt; omega)).mono ?_
  rintro e w14 ⟨rfl, b14⟩
  have B14 := Lib.hid (below_then B13.out b14)
  have I14 := Lib.hid (I13.out.then_ b14)
  clear b14
  have EJ := Lib.hid (joinP_app JA.out.1 JA.out.2.2.2.2.1 (n := nb + nc) (by simp [HP.out.2.2.2.1.2.1, HP.out.2.2.2.1.2.2]))
  have EJ1 := EJ.out.1
  have EJ2 := EJ.out.2
  rw [Int.natCast_add] at EJ1 EJ2
  rw [EJ1, EJ2, ← List.append_assoc]
  clear EJ1 EJ2
  go_wp2_with fail
  go_ret
  exact ⟨ret_bool (by simp), B14.out⟩
end Go.Proofs.YtocpbkmflihcnaaDoor
