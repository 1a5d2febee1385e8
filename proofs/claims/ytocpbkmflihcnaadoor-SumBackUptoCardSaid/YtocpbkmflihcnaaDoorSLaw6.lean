/- The law SumBack over the contracts. No statement is proved here. -/
import Derived.Test.YtocpbkmflihcnaaDoorSLaw5
namespace Go.Proofs.YtocpbkmflihcnaaDoor
open Go.RowKit
set_option maxRecDepth 100000

/-- What a read that goes well says. -/
theorem read_good {l : List Int} (hB : isB l) {size : Int} (h : readE l 0 size = 0) : ∃ s : Nat, size = s ∧ 1 ≤ s ∧ s ≤ 8 ∧ s ≤ l.length ∧ okInt (readP l 0 size) ∧ numE (readP l 0 size) size = 0 ∧ numL (readP l 0 size) size = l.take s := by
  have ha : argR l 0 size = true := by cases h2 : argR l 0 size <;> simp [readE, h2] at h ⊢
  have hl : lenR l 0 size = true := by cases h2 : lenR l 0 size <;> simp [readE, ha, h2] at h ⊢
  have ht : topR l 0 size = true := by cases h2 : topR l 0 size <;> simp [readE, ha, hl, h2] at h ⊢
  have hP : readP l 0 size = valB (cutB l 0 size) := by rw [readP, if_pos h]
  have ha := of_decide_eq_true ha
  have hl := of_decide_eq_true hl
  have ht := of_decide_eq_true ht
  obtain ⟨s, rfl⟩ := Int.eq_ofNat_of_zero_le (show 0 ≤ size by omega)
  have hc : cutB l 0 s = l.take s := rfl
  rw [hc] at hP ht
  rw [hP]
  have hb : isB (l.take s) := hB.take' s
  have hlen : (l.take s).length = s := by rw [List.length_take]; omega
  have hv := valB_le hb
  rw [hlen] at hv
  have hk : okN (valB (l.take s)) s = true := decide_eq_true ⟨by omega, by omega, hv.1, by rw [Int.toNat_natCast]; exact Int.ediv_eq_zero_of_lt hv.1 hv.2⟩
  refine ⟨s, rfl, by omega, by omega, by omega, ?_, by rw [numE, hk]; rfl, ?_⟩
  · unfold okInt; omega
  · rw [numL, hk, if_pos rfl, Int.toNat_natCast]
    have := leB_valB (l.take s) hb
    rw [hlen] at this
    exact this
/-- What was written is read. -/
theorem read_back {n size : Int} (hn : okInt n) (h : okN n size = true) (a b : List Int) {k : Nat} (hk : a.length = k) : readP (a ++ numL n size ++ b) k size = n ∧ readE (a ++ numL n size ++ b) k size = 0 ∧ ((numL n size).length : Int) = size ∧ isB (numL n size) := by
  have hd := of_decide_eq_true h
  obtain ⟨s, rfl⟩ := Int.eq_ofNat_of_zero_le (show 0 ≤ size by omega)
  have hL : numL n s = leB s n := by rw [numL, h]; rfl
  rw [hL]
  rw [Int.toNat_natCast] at hd
  have hc : cutB (a ++ leB s n ++ b) k s = leB s n := by
    unfold cutB
    rw [Int.toNat_natCast, Int.toNat_natCast, List.append_assoc, List.drop_append_of_le_length (by omega), List.drop_of_length_le (by omega), List.nil_append, List.take_append_of_le_length (by rw [leB_len]; omega), List.take_of_length_le (by rw [leB_len]; omega)]
  have hv : valB (leB s n) = n := by
    rw [valB_leB s n hd.2.2.1, Int.emod_def, hd.2.2.2, Int.mul_zero, Int.sub_zero]
  have hlen : (a ++ leB s n ++ b).length = k + s + b.length := by rw [List.length_append, List.length_append, leB_len, hk]
  have e0 : readE (a ++ leB s n ++ b) k s = 0 := by
    have h1 : argR (a ++ leB s n ++ b) k s = true := decide_eq_true (by rw [hlen]; omega)
    have h2 : lenR (a ++ leB s n ++ b) k s = true := decide_eq_true (by rw [hlen]; omega)
    have h3 : topR (a ++ leB s n ++ b) k s = true := decide_eq_true (by rw [hc, hv]; unfold okInt at hn; omega)
    rw [readE, h1, h2, h3]; rfl
  refine ⟨?_, e0, by rw [leB_len], isB_leB s n⟩
  rw [readP, if_pos e0, hc, hv]
theorem below_drewN' {n : Nat} {w w' : World} (h : Below n w w') (k : Nat) : Below n w (w'.drewN k) := ⟨h.os, h.tape, h.output, h.size, h.block⟩
set_option maxHeartbeats 8000000 in
theorem back_law {W : World} (P : P11 W) (a : Option Addr) (ca na : Nat) (la : List Int) (n size : Int) (b : Option Addr) (cb nb : Nat) (lb : List Int)
    (ha : InB W a la) (hb : InB W b lb) (hBa : isB la) (hBb : isB lb) (hna : la.length = na) (hnb : lb.length = nb) (h0a : a = none → ca = 0 ∧ la = []) (h0b : b = none → cb = 0 ∧ lb = [])
    (hcb : nb ≤ cb ∧ cb ≤ 140737488351232) (hlen : na + nb + 8 ≤ 140737488351232) (hn : okInt n) (hs : okInt size) :
    Calls Tryd.prog 8 #[.slice a na ca, .int .i64 n, .int .i64 size, .slice b nb cb] W fun e w' => e = .returned (.bool true) ∧ Below W.heap.size W w' := by
  have HP := Lib.hid (And.intro P (And.intro (And.intro ha hb) (And.intro (And.intro hBa hBb) (And.intro (And.intro hna hnb) (And.intro (And.intro h0a h0b) (And.intro hn hs))))))
  have hla : la.length ≤ na := by omega
  have hlb : lb.length ≤ nb := by omega
  have hlb2 : nb ≤ lb.length := by omega
  obtain ⟨cb1, cb2⟩ := hcb
  clear P ha hb hBa hBb hna hnb h0a h0b hn hs
  go_enter Tryd.func8, Tryd.ntmps8
  go_wp2_with fail
  refine (awake11_any HP.out.1 W (Below.refl _ _)).mono ?_
  rintro e w1 ⟨rfl, b1⟩
  have B1 := Lib.hid b1
  have hz1 := b1.size
  clear b1
  go_wp2_with fail
  refine (HP.out.1.number n size w1 B1.out HP.out.2.2.2.2.2.1 HP.out.2.2.2.2.2.2).mono ?_
  rintro e w2 ⟨v1, rfl, o1, b2⟩
  have N2 := Lib.hid o1
  have B2 := Lib.hid (below_then B1.out b2)
  clear b2 o1
  go_wp2_with fail
  refine (HP.out.1.read b cb nb lb 0 size w2 B2.out (HP.out.2.1.2.then_ B2.out) HP.out.2.2.1.2 HP.out.2.2.2.1.2 cb1 (by omega) (by unfold okInt; omega) HP.out.2.2.2.2.2.2).mono ?_
  rintro e w3 ⟨rfl, b3⟩
  have N3 := Lib.hid (N2.out.then_ b3)
  have B3 := Lib.hid (below_then B2.out b3)
  clear b3
  by_cases hf : readE lb 0 size = 0
  · have HG := Lib.hid (read_good HP.out.2.2.1.2 hf)
    rw [hf]
    clear hf
    obtain ⟨s, rfl, hs1, hs8, hsl, hok, hE, hL⟩ := HG.out
    have HE := Lib.hid (And.intro hok (And.intro hE hL))
    clear HG hok hE hL
    go_wp2_with fail
    refine (HP.out.1.number (readP lb 0 (s : Int)) (s : Int) w3 B3.out HE.out.1 HP.out.2.2.2.2.2.2).mono ?_
    rintro e w4 ⟨v2, rfl, o2, b4⟩
    rw [HE.out.2.1]
    rw [HE.out.2.2] at o2
    have hls : (lb.take s).length = s := by rw [List.length_take]; omega
    obtain ⟨a2, c2, e2, i2, -⟩ := o2.shape
    rw [hls] at e2
    subst e2
    have i2b := (HP.out.2.1.2.then_ (below_then B3.out b4)).takeS s
    have HS := Lib.hid (And.intro o2.isNil (And.intro i2 (And.intro i2b (And.intro hls (show b = none → lb.take s = [] from fun h => by rw [(HP.out.2.2.2.2.1.2 h).2]; simp)))))
    have N4 := Lib.hid (N3.out.then_ b4)
    have B4 := Lib.hid (below_then B3.out b4)
    clear b4 o2 hls i2 i2b
    have s1 := fun k => run_str (w4.drewN k) a2 s c2 (lb.take s) HS.out.2.2.2.1 HS.out.2.1 HS.out.1
    have s2 := fun k => run_str (w4.drewN k) b s cb (lb.take s) HS.out.2.2.2.1 HS.out.2.2.1 HS.out.2.2.2.2
    have s3 := s1 0
    have s4 := s2 0
    have q1 : (0 : Int) ≤ (s : Int) := by omega
    have q2 : (s : Int) ≤ (nb : Int) := by omega
    have q3 : (s : Int) ≤ (cb : Int) := by omega
    have d1 : decide ((s : Int) < 0) = false := by simp
    have d2 : decide (nb < s) = false := by simp; omega
    have d3 : decide ((nb : Int) < (s : Int)) = false := by simp; omega
    go_wp2_with fail
    go_quiet (fail)
    have BZ : Below W.heap.size W (w4.drewN nq) := below_drewN' B4.out nq
    have NZ : OwnB (w4.drewN nq) w1.heap.size v1 (numL n s) := N4.out
    generalize w4.drewN nq = wz at *
    clear s1 s2 s3 s4 d1 d2 d3 q1 q2 q3
    have Z0 := Lib.hid (And.intro BZ NZ)
    clear BZ NZ
    obtain ⟨av, cv, ev, iv, h0v, -⟩ := Z0.out.2.shape
    subst ev
    have VN := Lib.hid (And.intro iv h0v)
    have NL := numL_len n (s : Int)
    clear iv h0v
    cases hk : okN n (s : Int)
    · have e0 : numL n (s : Int) = [] := by rw [numL, hk]; rfl
      have e1 : numE n (s : Int) = 1 := by rw [numE, hk]; rfl
      rw [e0, e1]
      clear hk e0 e1 NL
      go_wp2_with fail
      go_ret
      exact ⟨rfl, Z0.out.1⟩
    · have HRB := Lib.hid (read_back HP.out.2.2.2.2.2.1 hk la lb HP.out.2.2.2.1.1)
      have e1 : numE n (s : Int) = 0 := by rw [numE, hk]; rfl
      rw [e1]
      have HI := Lib.hid (And.intro (HP.out.2.1.1.then_ Z0.out.1) (HP.out.2.1.2.then_ Z0.out.1))
      clear hk e1
      obtain ⟨q, hq⟩ : ∃ q, (numL n (s : Int)).length = q := ⟨_, rfl⟩
      rw [hq] at NL ⊢
      have HQ := Lib.hid hq
      clear hq
      go_wp2_with (first
        | (at_builtin; refine apR rfl (.tmp 73) (.tmp 74) rfl wz.heap.size _ _ rfl (OwnB.nil _ _) a na ca la rfl HP.out.2.2.2.1.1 HI.out.1 HP.out.2.2.2.2.1.1 (by simp only [List.length_nil]; omega) (Nat.le_refl _) ?_; intro u1 x2 hg1; have G1 := Lib.hid hg1; have X2 := Lib.hid (hg1.below (OwnB.nil _ _) (Below.refl wz.heap.size wz) (Nat.le_refl _) (Nat.le_refl _)); clear hg1)
        | (at_builtin; refine apR rfl (.tmp 76) (.tmp 77) rfl wz.heap.size _ _ rfl G1.out.own av q cv (numL n (s : Int)) rfl HQ.out (VN.out.1.then_ X2.out) VN.out.2 (by simp only [List.length_append, List.length_nil]; omega) G1.out.size ?_; intro u2 x3 hg2; have G2 := Lib.hid hg2; have X3 := Lib.hid (hg2.below G1.out.own X2.out (Nat.le_refl _) G1.out.size); clear hg2)
        | (at_builtin; refine apR rfl (.tmp 79) (.tmp 80) rfl wz.heap.size _ _ rfl G2.out.own b nb cb lb rfl HP.out.2.2.2.1.2 (HI.out.2.then_ X3.out) HP.out.2.2.2.2.1.2 (by simp only [List.length_append, List.length_nil]; have := HQ.out; omega) (Nat.le_trans G1.out.size G2.out.size) ?_; intro u3 x4 hg3; have G3 := Lib.hid hg3; have X4 := Lib.hid (hg3.below G2.out.own X3.out (Nat.le_refl _) (Nat.le_trans G1.out.size G2.out.size)); clear hg3))
      obtain ⟨a3, c3, e3, i3, -, hc3, -⟩ := G3.out.own.shape
      subst e3
      rw [List.nil_append] at i3
      have EL : (([] ++ la ++ numL n (s : Int) ++ lb : List Int)).length = na + q + nb := by simp [HP.out.2.2.2.1.1, HP.out.2.2.2.1.2, HQ.out]; omega
      rw [EL] at hc3 ⊢
      have HC3 := Lib.hid hc3
      have I4 := Lib.hid (And.intro i3 (And.intro ((HP.out.2.2.1.1.append HRB.out.2.2.2).append HP.out.2.2.1.2) (show (la ++ numL n (s : Int) ++ lb).length = na + q + nb by simpa using EL)))
      have B5 := Lib.hid (Z0.out.1.trans (X4.out.mono Z0.out.1.size))
      clear i3 EL hc3
      refine (HP.out.1.read a3 c3 _ (la ++ numL n (s : Int) ++ lb) na (s : Int) x4 B5.out I4.out.1 I4.out.2.1 I4.out.2.2 HC3.out (by omega) (by unfold okInt; omega) HP.out.2.2.2.2.2.2).mono ?_
      rintro e x5 ⟨rfl, b5⟩
      rw [HRB.out.1, HRB.out.2.1]
      have hqs := HRB.out.2.2.1
      rw [HQ.out] at hqs
      have hq1 : ((q : Int) == (s : Int)) = true := by simp; exact hqs
      have B6 := Lib.hid (below_then B5.out b5)
      clear b5 hqs
      go_wp2_with fail
      go_ret
      exact ⟨ret_bool (by simp), B6.out⟩
  · have BZ := B3.out
    have NZ := N3.out
    have hb0 : ((readE lb 0 size) == 0) = false := by simp; exact hf
    clear hf
    generalize w3 = wz at *
    have Z0 := Lib.hid (And.intro BZ NZ)
    clear BZ NZ
    obtain ⟨av, cv, ev, iv, h0v, -⟩ := Z0.out.2.shape
    subst ev
    have VN := Lib.hid (And.intro iv h0v)
    have NL := numL_len n size
    clear iv h0v
    cases hk : okN n size
    · have e0 : numL n size = [] := by rw [numL, hk]; rfl
      have e1 : numE n size = 1 := by rw [numE, hk]; rfl
      rw [e0, e1]
      clear hk e0 e1 NL
      go_wp2_with fail
      go_ret
      exact ⟨rfl, Z0.out.1⟩
    · have HRB := Lib.hid (read_back HP.out.2.2.2.2.2.1 hk la lb HP.out.2.2.2.1.1)
      have e1 : numE n size = 0 := by rw [numE, hk]; rfl
      rw [e1]
      have HI := Lib.hid (And.intro (HP.out.2.1.1.then_ Z0.out.1) (HP.out.2.1.2.then_ Z0.out.1))
      clear hk e1
      obtain ⟨q, hq⟩ : ∃ q, (numL n size).length = q := ⟨_, rfl⟩
      rw [hq] at NL ⊢
      have HQ := Lib.hid hq
      clear hq
      go_wp2_with (first
        | (at_builtin; refine apR rfl (.tmp 73) (.tmp 74) rfl wz.heap.size _ _ rfl (OwnB.nil _ _) a na ca la rfl HP.out.2.2.2.1.1 HI.out.1 HP.out.2.2.2.2.1.1 (by simp only [List.length_nil]; omega) (Nat.le_refl _) ?_; intro u1 x2 hg1; have G1 := Lib.hid hg1; have X2 := Lib.hid (hg1.below (OwnB.nil _ _) (Below.refl wz.heap.size wz) (Nat.le_refl _) (Nat.le_refl _)); clear hg1)
        | (at_builtin; refine apR rfl (.tmp 76) (.tmp 77) rfl wz.heap.size _ _ rfl G1.out.own av q cv (numL n size) rfl HQ.out (VN.out.1.then_ X2.out) VN.out.2 (by simp only [List.length_append, List.length_nil]; omega) G1.out.size ?_; intro u2 x3 hg2; have G2 := Lib.hid hg2; have X3 := Lib.hid (hg2.below G1.out.own X2.out (Nat.le_refl _) G1.out.size); clear hg2)
        | (at_builtin; refine apR rfl (.tmp 79) (.tmp 80) rfl wz.heap.size _ _ rfl G2.out.own b nb cb lb rfl HP.out.2.2.2.1.2 (HI.out.2.then_ X3.out) HP.out.2.2.2.2.1.2 (by simp only [List.length_append, List.length_nil]; have := HQ.out; omega) (Nat.le_trans G1.out.size G2.out.size) ?_; intro u3 x4 hg3; have G3 := Lib.hid hg3; have X4 := Lib.hid (hg3.below G2.out.own X3.out (Nat.le_refl _) (Nat.le_trans G1.out.size G2.out.size)); clear hg3))
      obtain ⟨a3, c3, e3, i3, -, hc3, -⟩ := G3.out.own.shape
      subst e3
      rw [List.nil_append] at i3
      have EL : (([] ++ la ++ numL n size ++ lb : List Int)).length = na + q + nb := by simp [HP.out.2.2.2.1.1, HP.out.2.2.2.1.2, HQ.out]; omega
      rw [EL] at hc3 ⊢
      have HC3 := Lib.hid hc3
      have I4 := Lib.hid (And.intro i3 (And.intro ((HP.out.2.2.1.1.append HRB.out.2.2.2).append HP.out.2.2.1.2) (show (la ++ numL n size ++ lb).length = na + q + nb by simpa using EL)))
      have B5 := Lib.hid (Z0.out.1.trans (X4.out.mono Z0.out.1.size))
      clear i3 EL hc3
      refine (HP.out.1.read a3 c3 _ (la ++ numL n size ++ lb) na size x4 B5.out I4.out.1 I4.out.2.1 I4.out.2.2 HC3.out (by omega) (by unfold okInt; omega) HP.out.2.2.2.2.2.2).mono ?_
      rintro e x5 ⟨rfl, b5⟩
      rw [HRB.out.1, HRB.out.2.1]
      have hqs := HRB.out.2.2.1
      rw [HQ.out] at hqs
      have hq1 : ((q : Int) == size) = true := by simp; exact hqs
      have B6 := Lib.hid (below_then B5.out b5)
      clear b5 hqs
      go_wp2_with fail
      go_ret
      exact ⟨ret_bool (by simp), B6.out⟩
end Go.Proofs.YtocpbkmflihcnaaDoor
