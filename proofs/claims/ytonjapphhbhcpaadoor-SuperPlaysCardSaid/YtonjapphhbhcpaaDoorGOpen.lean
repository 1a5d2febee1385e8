/- The document's own Open of a page: its contract. No statement is proved here. -/
import Derived.Test.YtonjapphhbhcpaaDoorJ16
import Derived.Test.YtonjapphhbhcpaaDoorAppSem
import Derived.Test.YtonjapphhbhcpaaDoorJ20
namespace Go.Proofs.YtonjapphhbhcpaaDoor
open Go.RowKit
set_option maxRecDepth 100000

def lenG (l : List Int) : Int := valB (cutB l 9 2)
def kindG (l : List Int) : Int := l.getD 8 0
def clean (l : List Int) : Bool := (l.drop (11 + (lenG l).toNat)).all (· == 0)
/-- What is wrong with a page's bytes under a number. -/
def openE (l : List Int) (number : Int) : Int :=
  if l.length = 4096 then
    if moreP 0 (l.drop 4) = valB (cutB l 0 4) then
      if valB (cutB l 4 4) = number then
        if kindG l = 0 ∨ 4085 < lenG l then 122 else if clean l then 0 else 122
      else 121
    else 120
  else 122
def openK (l : List Int) (number : Int) : Int := if openE l number = 0 then kindG l else 0
def openL (l : List Int) (number : Int) : List Int := if openE l number = 0 then (l.drop 11).take (lenG l).toNat else []
/-- A number read where there are bytes enough. -/
theorem read_is {l : List Int} (h : isB l) {a s : Nat} (hs1 : 1 ≤ s) (hs : s ≤ 7) (ha : a + s ≤ l.length) : readP l a s = valB (cutB l a s) ∧ readE l a s = 0 := by
  have h1 : argR l a s = true := decide_eq_true (by omega)
  have h2 : lenR l a s = true := decide_eq_true (by omega)
  have h3 : topR l a s = true := decide_eq_true (by unfold cutB; rw [Int.toNat_natCast, Int.toNat_natCast]; exact top_free h hs)
  unfold readP readE
  rw [h1, h2, h3]
  exact ⟨rfl, rfl⟩
theorem cut_rng {l : List Int} (h : isB l) (a s : Int) : 0 ≤ valB (cutB l a s) := (valB_le ((h.drop a.toNat).take' s.toNat)).1
theorem lenG_rng {l : List Int} (h : isB l) : 0 ≤ lenG l ∧ lenG l ≤ 65535 := by
  refine ⟨cut_rng h _ _, ?_⟩
  have := valB_small ((h.drop 9).take' 2) (m := 2) (by rw [List.length_take]; omega)
  have e : (256 : Int) ^ 2 = 65536 := by decide
  show valB ((l.drop 9).take 2) ≤ 65535
  omega
theorem InB.take_ {w : World} {a : Option Addr} {l : List Int} (h : InB w a l) (k : Nat) : InB w a (l.take k) := fun i x hx => h i x (by
  rw [List.getElem?_take] at hx
  split at hx
  · exact hx
  · cases hx)
/-- What Open tells. -/
def OpenTo (l : List Int) (number : Int) (w : World) (e : Ending) (w' : World) : Prop := ∃ v, e = .returned (.tuple #[.int .i64 (openK l number), v, .int .i64 (openE l number)]) ∧ OwnB w' w.heap.size v (openL l number) ∧ Below w.heap.size w w'
theorem OpenTo.bad {l : List Int} {number : Int} {w : World} {n : Int} (h : openE l number = n) (hn : n ≠ 0) : OpenTo l number w (.returned (.tuple #[.int .i64 0, .slice none 0 0, .int .i64 n])) w := by
  have h0 : openE l number ≠ 0 := by rw [h]; exact hn
  exact ⟨_, by unfold openK; rw [if_neg h0, h], by unfold openL; rw [if_neg h0]; exact OwnB.nil _ _, Below.refl _ _⟩
theorem InB.from {w : World} {b o : Nat} {l : List Int} (h : InB w (some ⟨b, o, none⟩) l) (k : Nat) : InB w (some ⟨b, o + k, none⟩) (l.drop k) := fun i x hx => by
  rw [List.getElem?_drop] at hx
  obtain ⟨b', o', e, hc⟩ := h (k + i) x hx
  injection e with e
  injection e with e1 e2
  subst e1 e2
  exact ⟨b, o + k, rfl, by rw [Nat.add_assoc]; exact hc⟩
attribute [local go_sem ↓] app_sem
set_option maxHeartbeats 4000000 in
theorem refOpen_any (number : Int) (la : Option Addr) (n c : Nat) (l : List Int) (w : World) (h1 : okInt number) (hin : InB w la l) (hB : isB l) (hn : l.length = n) (hc : n ≤ c) (hl : n ≤ 140737488351232) :
    Calls Tryd.prog 40 #[.slice la n c, .int .i64 number] w (OpenTo l number w) := by
  by_cases hz : n = 4096
  · obtain ⟨b, o, x0, rfl, -, -⟩ := hin.one (i := 0) (by omega)
    subst hz
    have hadd : (⟨b, o, none⟩ : Addr).add 4 = ⟨b, o + 4, none⟩ := by unfold Addr.add; split <;> simp_all
    have hmap : Option.map (fun x : Addr => x.add 4) (some ⟨b, o, none⟩) = some ⟨b, o + 4, none⟩ := by rw [Option.map_some, hadd]
    obtain ⟨b8, o8, x8, e8, hx8, y8⟩ := hin.one (i := 8) (by omega)
    obtain ⟨rfl, rfl⟩ : b = b8 ∧ o = o8 := by injection e8 with e8; injection e8 with e1 e2; exact ⟨e1, e2⟩
    have hb8 := hB.at' hx8
    have hk8 : kindG l = x8 := by unfold kindG; rw [List.getD_eq_getElem?_getD, hx8]; rfl
    obtain ⟨sm, hsm⟩ : ∃ sm, sm = moreP 0 (l.drop 4) := ⟨_, rfl⟩
    obtain ⟨td, htd⟩ : ∃ td, td = valB (cutB l 0 4) := ⟨_, rfl⟩
    obtain ⟨nb, hnb⟩ : ∃ nb, nb = valB (cutB l 4 4) := ⟨_, rfl⟩
    obtain ⟨lg, hlg⟩ : ∃ lg, lg = lenG l := ⟨_, rfl⟩
    have hlr := lenG_rng hB
    rw [← hlg] at hlr
    have HS := Lib.hid (refSum_any (some ⟨b, o + 4, none⟩) (c - 4) 4092 (l.drop 4) w (hin.from 4) (hB.drop 4) (by rw [List.length_drop, hn]) (by omega))
    rw [← hsm] at HS
    have HR1 := Lib.hid (refRead_any (some ⟨b, o, none⟩) c 4096 l 0 4 w hin hB hn (by omega) (by unfold okInt; omega) (by unfold okInt; omega))
    have HR2 := Lib.hid (refRead_any (some ⟨b, o, none⟩) c 4096 l 4 4 w hin hB hn (by omega) (by unfold okInt; omega) (by unfold okInt; omega))
    have HR3 := Lib.hid (refRead_any (some ⟨b, o, none⟩) c 4096 l 9 2 w hin hB hn (by omega) (by unfold okInt; omega) (by unfold okInt; omega))
    unfold ReadTo at HR1 HR2 HR3
    have r1 := read_is hB (a := 0) (s := 4) (by omega) (by omega) (by omega)
    have r2 := read_is hB (a := 4) (s := 4) (by omega) (by omega) (by omega)
    have r3 := read_is hB (a := 9) (s := 2) (by omega) (by omega) (by omega)
    replace r1 : readP l 0 4 = td ∧ readE l 0 4 = 0 := by rw [htd]; exact r1
    replace r2 : readP l 4 4 = nb ∧ readE l 4 4 = 0 := by rw [hnb]; exact r2
    replace r3 : readP l 9 2 = lg ∧ readE l 9 2 = 0 := by rw [hlg]; exact r3
    rw [r1.1, r1.2] at HR1
    rw [r2.1, r2.2] at HR2
    rw [r3.1, r3.2] at HR3
    have HE := Lib.hid (show openE l number = if sm = td then if nb = number then if x8 = 0 ∨ 4085 < lg then 122 else if clean l then 0 else 122 else 121 else 120 by unfold openE; rw [if_pos hn, hsm, htd, hnb, hlg, hk8])
    have HA := Lib.hid (And.intro hin (And.intro hB (And.intro hn (And.intro hlg hk8))))
    clear hin hB hn hsm htd hnb hlg hk8 hx8 e8 r1 r2 r3 hadd
    unfold okInt at h1
    go_enter Tryd.func40, Tryd.ntmps40
    go_wp2_with fail
    refine HS.out.mono ?_
    rintro e w' ⟨rfl, rfl⟩
    go_wp2_with fail
    refine HR1.out.mono ?_
    rintro e w' ⟨rfl, rfl⟩
    by_cases e1 : sm = td
    · have q1 : (sm != td) = false := by simp [e1]
      go_wp2_with fail
      refine HR2.out.mono ?_
      rintro e w' ⟨rfl, rfl⟩
      by_cases e2 : nb = number
      · have q2 : (nb != number) = false := by simp [e2]
        go_wp2_with fail
        refine HR3.out.mono ?_
        rintro e w' ⟨rfl, rfl⟩
        have HE2 := HE.out
        rw [if_pos e1, if_pos e2] at HE2
        clear e1 e2 q1 q2
        by_cases e3 : x8 = 0 ∨ 4085 < lg
        · rw [if_pos e3] at HE2
          have HX := Lib.hid (OpenTo.bad (w := w) HE2 (by omega))
          clear HE2
          by_cases e4 : x8 = 0
          · subst e4
            go_wp2_with fail
            go_ret3
            exact HX.out
          · have q4 : (x8 == 0) = false := by simp [e4]
            have e5 : 4085 < lg := by omega
            go_wp2_with fail
            go_ret3
            exact HX.out
        · rw [if_neg e3] at HE2
          have HE3 := Lib.hid HE2
          obtain ⟨lgn, hlgn⟩ := Int.eq_ofNat_of_zero_le hlr.1
          subst hlgn
          have q4 : (x8 == 0) = false := by simp; omega
          have hlg4 : lgn ≤ 4085 := by omega
          have HX8 := Lib.hid (show x8 ≠ 0 by omega)
          clear HE2 e3
          go_wp2_with fail
          go_loop [14] (fun i => ∃ k : Nat, 11 + lgn ≤ k ∧ k ≤ 4096 ∧ i = .int .i64 (k : Int) ∧ Hid (∀ j, 11 + lgn ≤ j → j < k → l[j]? = some 0)) (fun i => 4096 - (intOf i).toNat)
          case atStart => exact ⟨11 + lgn, Nat.le_refl _, by omega, by go_num, Lib.hid (fun j a b => by omega)⟩
          case round =>
            obtain ⟨k, hk1, hk2, rfl, HK⟩ := hrel
            by_cases hlt : k < 4096
            · obtain ⟨b', o', y, e', hy, y0⟩ := HA.out.1.one (i := k) (by rw [HA.out.2.2.1]; exact hlt)
              obtain ⟨rfl, rfl⟩ : b = b' ∧ o = o' := by injection e' with e'; injection e' with e1 e2; exact ⟨e1, e2⟩
              have HY := Lib.hid hy
              clear e' hy
              by_cases hy0 : y = 0
              · subst hy0
                go_wp2_with fail
                go_round
                case rel => exact ⟨k + 1, by omega, by omega, by go_num, Lib.hid (fun j a b => by
                  by_cases e : j = k
                  · rw [e]; exact HY.out
                  · exact HK.out j a (by omega))⟩
                case measure => simp [intOf]; omega
              · have q5 : (y != 0) = true := by simp [hy0]
                have HX := Lib.hid (OpenTo.bad (w := w) (n := 122) (HE3.out.trans (if_neg (fun hcl => hy0 (by
                  unfold clean at hcl
                  rw [← HA.out.2.2.2.1, Int.toNat_natCast] at hcl
                  have hm : y ∈ l.drop (11 + lgn) := by
                    have : (l.drop (11 + lgn))[k - (11 + lgn)]? = some y := by rw [List.getElem?_drop, show 11 + lgn + (k - (11 + lgn)) = k by omega]; exact HY.out
                    exact List.mem_of_getElem? this
                  simpa using List.all_eq_true.1 hcl y hm)))) (by omega))
                clear hy0
                go_wp2_with fail
                go_ret3
                exact HX.out
            · have hk6 : k = 4096 := by omega
              subst hk6
              clear hk1 hk2 hlt
              have hdl : ((l.drop 11).take lgn).length = lgn := by rw [List.length_take, List.length_drop, HA.out.2.2.1]; omega
              have hbl := cell_lt y8
              obtain ⟨v, w2, hrun, hg⟩ := run_apR (w.alloc (.cells #[] 5)).drew 24 w.heap.size (.slice (some ⟨w.heap.size, 0, none⟩) 0 0) [] (OwnB.lit w [] (by simp)) (some ⟨b, o + 11, none⟩) lgn (c - 11) ((l.drop 11).take lgn) hdl (((HA.out.1.from 11).take_ lgn).then_ (below1 w _).drew) (fun e => by cases e) (by simp; omega) (below1 w _).size
              rw [app_sem] at hrun
              have hb2 := hg.below (OwnB.lit w [] (by simp)) (below1 w (.cells #[] 5)).drew (Nat.le_refl _) (below1 w _).size
              have y82 := (hb2.cell (p := ⟨b, o + 8, none⟩) hbl).trans y8
              have HG := Lib.hid (And.intro hg hb2)
              have hadd11 : (⟨b, o, none⟩ : Addr).add 11 = ⟨b, o + 11, none⟩ := by unfold Addr.add; split <;> simp_all
              have hmap11 : Option.map (fun x : Addr => x.add 11) (some ⟨b, o, none⟩) = some ⟨b, o + 11, none⟩ := by rw [Option.map_some, hadd11]
              have hsub : 11 + lgn - 11 = lgn := by omega
              have hcl : clean l = true := by
                unfold clean
                rw [← HA.out.2.2.2.1, Int.toNat_natCast]
                refine List.all_eq_true.2 (fun x hx => ?_)
                obtain ⟨i, hi⟩ := List.mem_iff_getElem?.1 hx
                rw [List.getElem?_drop] at hi
                have hb' : 11 + lgn + i < l.length := (List.getElem?_eq_some_iff.1 hi).1
                have h0 := HK.out (11 + lgn + i) (by omega) (by rw [HA.out.2.2.1] at hb'; exact hb')
                rw [h0] at hi
                cases hi
                rfl
              have hE0 : openE l number = 0 := by rw [HE3.out, if_pos hcl]
              have HX : Hid (OpenTo l number w (.returned (.tuple #[.int .i64 x8, v, .int .i64 0])) w2) := Lib.hid ⟨v, by
                unfold openK
                rw [if_pos hE0, hE0, HA.out.2.2.2.2], by
                unfold openL
                rw [if_pos hE0, ← HA.out.2.2.2.1, Int.toNat_natCast]
                exact HG.out.1.own, HG.out.2⟩
              clear hg hb2 hdl hcl hE0
              go_wp2_with fail
              go_region
              go_wp2_with fail
              go_ret3
              exact HX.out
      · have q2 : (nb != number) = true := by simp [e2]
        have HX := Lib.hid (OpenTo.bad (w := w) (n := 121) (HE.out.trans (by rw [if_pos e1, if_neg e2])) (by omega))
        clear e1 e2
        go_wp2_with fail
        go_ret3
        exact HX.out
    · have q1 : (sm != td) = true := by simp [e1]
      have HX := Lib.hid (OpenTo.bad (w := w) (n := 120) (HE.out.trans (by rw [if_neg e1])) (by omega))
      clear e1
      go_wp2_with fail
      go_ret3
      exact HX.out
  · have HE : Hid (OpenTo l number w (.returned (.tuple #[.int .i64 0, .slice none 0 0, .int .i64 122])) w) := Lib.hid (OpenTo.bad (by unfold openE; rw [if_neg (by omega)]) (by omega))
    have hz2 : ((n : Int) != 4096) = true := by simp; omega
    clear hn hin hB
    go_enter Tryd.func40, Tryd.ntmps40
    go_wp2_with fail
    go_ret3
    exact HE.out
end Go.Proofs.YtonjapphhbhcpaaDoor
