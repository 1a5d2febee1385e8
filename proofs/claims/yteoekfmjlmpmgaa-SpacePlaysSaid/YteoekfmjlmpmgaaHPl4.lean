/- The law SpacePlays over the contracts. No statement is proved here. -/
import Derived.Test.YteoekfmjlmpmgaaHPl3
namespace Go.Proofs.Yteoekfmjlmpmgaa
open Go.RowKit
set_option maxRecDepth 100000

/-- What New told, in one. -/
def Told (pages : Int) (us : List Int) (pv : Value) (ev : Int) (r : Option (Nat × List Int)) : Prop :=
  (r = none ∧ pv = .pointer none ∧ ev = 1 ∧ newP pages us = none) ∨ ∃ a M, r = some (a, M) ∧ pv = .pointer (some ⟨a, 0, none⟩) ∧ ev = 0 ∧ newP pages us = some M
set_option maxHeartbeats 16000000 in
theorem plays_law {W : World} {Sp : World → List Nat → Nat → List Int → Prop} (P : P13 W Sp) (pages : Int) (hp : okInt pages) (ua : Option Addr) (un uc : Nat) (us : List Int) (hui : InI W ua us) (hun : us.length = un) (huc : un ≤ uc ∧ uc ≤ 17592186043904) (hu0 : ua = none → uc = 0 ∧ us = []) (huo : ∀ u ∈ us, okInt u)
    (oa : Option Addr) (on oc : Nat) (os : List Op3) (hi : InT W oa os) (hall : ∀ o ∈ os, o.ok) (hn : os.length = on) (hsm : on ≤ 140737488355328) :
    Calls Try.prog 3 #[.int .i64 pages, .slice ua un uc, .slice oa on oc] W fun e w' => e = .returned (.bool true) ∧ Below W.heap.size W w' := by
  have HP := Lib.hid P
  have HI := Lib.hid (And.intro hi (And.intro hall hn))
  have HU := Lib.hid (And.intro hui (And.intro hun (And.intro hu0 huo)))
  clear P hi hall hn hui hun hu0 huo
  go_enter Try.func3, Try.ntmps3
  go_wp2_with fail
  refine (awake13_any HP.out W (Below.refl _ _)).mono ?_
  rintro e w1 ⟨rfl, b1⟩
  have B1 := Lib.hid b1
  have hz1 := b1.size
  clear b1
  go_wp2_with (first
    | (at_builtin; go_loud (refine apIR rfl (.tmp 21) (.tmp 22) rfl W.heap.size _ _ rfl ((OwnI.lit w1 [] (by decide)).base hz1) _ _ _ us rfl HU.out.2.1 ((HU.out.1.then_ B1.out).then_ (below1 w1 _)) HU.out.2.2.1 (by show 0 + un ≤ _; omega) (Nat.le_trans hz1 (below1 w1 _).size) ?_); intro v' w2 hg; have G := Lib.hid hg; have T := Lib.hid (hg.below ((OwnI.lit w1 [] (by decide)).base hz1) (B1.out.alloc hz1 (.cells #[] 3)) (Nat.le_refl _) (Nat.le_trans hz1 (below1 w1 _).size)); obtain ⟨ai, ci, e, -⟩ := (show OwnI w2 W.heap.size v' us from hg.own).shape; rw [HU.out.2.1] at e; subst e; clear hg))
  have G2 : Hid (OwnI w2 W.heap.size (.slice ai un ci) us) := Lib.hid G.out.own
  clear G
  obtain ⟨iin, i0, ile, icm⟩ := G2.out.facts
  have HN := Lib.hid (HP.out.new pages ai un ci us w2 T.out hp iin HU.out.2.1 ile icm (by omega) i0 HU.out.2.2.2)
  clear iin i0 ile icm
  refine HN.out.mono ?_
  intro e w3 hnew
  obtain ⟨pv, ev, r, rfl, HT, HG⟩ : ∃ pv ev r, e = .returned (.tuple #[pv, .int .i64 ev]) ∧ Hid (Told pages us pv ev r) ∧ Hid (Given Sp W w3 (.slice ai un ci) us r) := by
    obtain ⟨hb, ⟨k1, rfl⟩ | ⟨M, F, a, k1, rfl, k2, k3⟩⟩ := hnew
    · exact ⟨_, _, none, rfl, Lib.hid (.inl ⟨rfl, rfl, rfl, k1⟩), Lib.hid ⟨G2.out.then_ hb, (fun a M e => by cases e), below_then T.out hb⟩⟩
    · refine ⟨_, _, some (a, M), rfl, Lib.hid (.inr ⟨a, M, rfl, rfl, rfl, k1⟩), Lib.hid ⟨G2.out.then_ hb, fun a' M' e => ?_, below_then T.out hb⟩⟩
      injection e with e
      injection e with e1 e2
      subst e1 e2
      refine ⟨⟨F, k2, fun b hb' => Nat.le_trans T.out.size (k3 b hb'), fun b hb' hn => ?_⟩, fun k hk => ?_, below_then T.out hb, below_then T.out hb⟩
      · have := (G2.out.block b (by simpa using hn)).2; have := k3 b hb'; omega
      · exact Nat.lt_of_lt_of_le (G2.out.block k (by simpa using hk)).2 hb.size
  clear hnew HN G2 T
  go_wp2_with fail
  refine (same_any ai ua un ci uc us w3 HG.out.row.inN (HU.out.1.then_ HG.out.top) HU.out.2.1 (by omega)).mono ?_
  rintro e w4 ⟨rfl, b4⟩
  have HG4 := Lib.hid (HG.out.then_ HP.out b4)
  clear b4 HG
  go_wp2_with fail
  go_loopw [12] (fun i wr => ∃ (k : Nat) (l : List Int), k ≤ un ∧ i = .int .i64 (k : Int) ∧ l.length = un ∧ Hid (Given Sp W wr (.slice ai un ci) l r)) (fun i _ => un - (intOf i).toNat)
  case atStart => exact ⟨0, us, Nat.zero_le _, rfl, HU.out.2.1, HG4⟩
  case round =>
    obtain ⟨k, l, hk, rfl, hl, HK⟩ := hrel
    by_cases hlt : k < un
    · obtain ⟨gi, rfl⟩ := HK.out.row.some_ (by omega)
      obtain ⟨y, hy⟩ : ∃ y, l[k]? = some y := ⟨_, List.getElem?_eq_getElem (by omega)⟩
      obtain ⟨ck, fk⟩ := HK.out.row.at_ hy
      have H2 := Lib.hid (HK.out.put HP.out k (-5))
      clear hy
      go_wp2_with fail
      go_roundw
      case rel => exact ⟨k + 1, _, by omega, by go_num, by rw [List.length_set]; exact hl, H2⟩
      case measure => simp [intOf]; omega
    · have hkn : k = un := by omega
      subst hkn
      go_wp2_with fail
      refine (rnew_any W.heap.size pages hp ua k uc us wr HK.out.top.size (HU.out.1.then_ HK.out.top) HU.out.2.1 (by omega) HU.out.2.2.2).mono ?_
      rintro e w5 ⟨b5, ⟨q1, rfl⟩ | ⟨M, G, x, q1, rfl, q2, q3⟩⟩
      · rcases HT.out with ⟨rfl, rfl, rfl, -⟩ | ⟨a, M, rfl, rfl, rfl, t1⟩
        · have HB := Lib.hid (below_then HK.out.top b5)
          clear b5 q1
          go_wp2_with fail
          go_ret
          exact ⟨rfl, HB.out⟩
        · rw [q1] at t1; cases t1
      · rcases HT.out with ⟨rfl, rfl, rfl, t1⟩ | ⟨a, M', rfl, rfl, rfl, t1⟩
        · rw [q1] at t1; cases t1
        · rw [q1] at t1
          injection t1 with t1
          subst t1
          obtain ⟨F, f1, f2, f3⟩ := (HK.out.sp a M rfl).sp
          have lF := HP.out.lt f1
          have H5 : Hid (Sp w5 F a M ∧ RSp W.heap.size w5 G x M ∧ Dj F G ∧ Below W.heap.size W w5) := Lib.hid ⟨HP.out.keep f1 fun b hb => b5.block b (lF b hb).2, q2, fun b hb hn => by have := (lF b hb).2; have := q3 b hn; omega, below_then HK.out.top b5⟩
          clear f1 f2 f3 lF q1 q2 q3 b5
          go_wp2_with fail
          refine (HP.out.clone F a M w5 H5.out.2.2.2 H5.out.1).mono ?_
          rintro e w6 ⟨F1, F2, b, rfl, k0, k1, k2, k3, k4, k5⟩
          have H6 := Lib.hid (And.intro k0 (And.intro k1 (And.intro k2 (And.intro k3 (And.intro k4 k5)))))
          have R6 := Lib.hid (H5.out.2.1.keep fun z hz => k0.block z (H5.out.2.1.lt z hz).2 fun hn => H5.out.2.2.1 z hn hz)
          clear k0 k1 k2 k3 k4 k5
          go_wp2_with fail
          refine (rclone_any W.heap.size G x M w6 R6.out).mono ?_
          rintro e w7 ⟨y, G2, rfl, r1, r2, b7⟩
          have HW := Lib.hid (Wh.made HP.out H5.out.2.2.2 H5.out.1 H5.out.2.1 H5.out.2.2.1 H6.out.1 H6.out.2.1 H6.out.2.2.1 H6.out.2.2.2.1 H6.out.2.2.2.2.1 H6.out.2.2.2.2.2 r1 r2 b7)
          have c1 := (row_cells HW.out.box 1).trans (csOf_get (k := 0) (j := 1) rfl a b x y).2.2.1
          clear r1 r2 b7 H5 H6 R6 HG4 HK
          go_wp2_with fail
          generalize hq : w7.heap.size = q at *
          have HQ := Lib.hid hq
          clear c1 hq
          go_loopw [16] (fun i wr => ∃ (n : Nat) (a b x y : Nat) (L M : List Int), n ≤ on ∧ i = .int .i64 (n : Int) ∧ Hid (Wh Sp W wr [] q (csOf 0 a b x y) a x b y L L M M)) (fun i _ => on - (intOf i).toNat)
          case atStart => exact ⟨0, _, _, _, _, _, _, Nat.zero_le _, rfl, HW⟩
          case round =>
            obtain ⟨n, a, b, x, y, L, M, hn1, rfl, HX⟩ := hrel
            by_cases hlt : n < on
            · obtain ⟨bo, oo, o, rfl, ho, c0, c1, c2⟩ := HI.out.1.one HX.out.top (j := n) (by rw [HI.out.2.2]; exact hlt)
              have hok := HI.out.2.1 o (List.mem_of_getElem? ho)
              have HO := Lib.hid hok
              clear ho hok
              go_wp2_with fail
              refine (does_both HP.out o HO.out HX.out).mono ?_
              rintro e w8 ⟨rfl, a', x', b', y', L', M', h8⟩
              have H8 := Lib.hid h8
              clear h8
              go_wp2_with fail
              go_roundw
              case rel => exact ⟨n + 1, _, _, _, _, _, _, by omega, by go_num, H8⟩
              case measure => simp [intOf]; omega
            · have hno : n = on := by omega
              subst hno
              have c0 := (row_cells HX.out.box 0).trans (csOf_get (k := 0) (j := 1) rfl a b x y).1
              have c2 := (row_cells HX.out.box 2).trans (csOf_get (k := 0) (j := 1) rfl a b x y).2.1
              have HC := Lib.hid ((HX.out.then_ HP.out (Below.refl wr.heap.size wr).drew).told HP.out)
              go_wp2_with fail
              go_region_held3 (fun w' => w'.cell? ⟨q, 0, none⟩ = some (.pointer (some ⟨a, 0, none⟩)) ∧ w'.cell? ⟨q, 2, none⟩ = some (.pointer (some ⟨x, 0, none⟩)))
                (first
                  | exact ⟨c0, c2⟩
                  | exact ⟨c09, c29⟩
                  | go_keep)
                (first
                  | (go_at_call 15; refine HC.out.mono ?_; rintro e w9 ⟨rfl, h9, -⟩; have H9 := Lib.hid h9; have c09 := (row_cells h9.box 0).trans (csOf_get (k := 0) (j := 1) rfl a b x y).1; have c29 := (row_cells h9.box 2).trans (csOf_get (k := 0) (j := 1) rfl a b x y).2.1; clear h9))
              clear c0 c2 c09 c29 HC
              have c1 := (row_cells H9.out.box 1).trans (csOf_get (k := 0) (j := 1) rfl a b x y).2.2.1
              have c3 := (row_cells H9.out.box 3).trans (csOf_get (k := 0) (j := 1) rfl a b x y).2.2.2
              have HC := Lib.hid (((H9.out.then_ HP.out (Below.refl w9.heap.size w9).drew).swap).told HP.out)
              go_wp2_with fail
              go_region_held3 (fun w' => w'.cell? ⟨q, 1, none⟩ = some (.pointer (some ⟨b, 0, none⟩)) ∧ w'.cell? ⟨q, 3, none⟩ = some (.pointer (some ⟨y, 0, none⟩)))
                (first
                  | exact ⟨c1, c3⟩
                  | exact ⟨c19, c39⟩
                  | go_keep)
                (first
                  | (go_at_call 15; refine HC.out.mono ?_; rintro e w10 ⟨rfl, h10, -⟩; have H10 := Lib.hid h10; have c19 := (row_cells h10.box 1).trans (csOf_get (k := 0) (j := 1) rfl a b x y).2.2.1; have c39 := (row_cells h10.box 3).trans (csOf_get (k := 0) (j := 1) rfl a b x y).2.2.2; clear h10))
              clear c1 c3 c19 c39 HC
              go_wp2_with fail
              go_ret
              exact ⟨rfl, H10.out.top⟩
#print axioms plays_law
end Go.Proofs.Yteoekfmjlmpmgaa
