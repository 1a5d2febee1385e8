/- The program's Make of a superblock. The program's Open of a superblock. The program's Choose. No statement is proved here. -/
import Derived.Test.YtonjapphhbhcpaaDoorJ11
import Derived.Test.YtonjapphhbhcpaaDoorJ4
import Derived.Test.YtonjapphhbhcpaaDoorJ18
import Derived.Deep.RegionHeld3
import Derived.Test.YtonjapphhbhcpaaDoorURef4
namespace Go.Proofs.YtonjapphhbhcpaaDoor
open Go.RowKit
set_option maxRecDepth 100000

theorem tab16_on {w w' : World} (h : Tab16 w) (hb : Below w.heap.size w w') : Tab16 w' := fun i hi => (hb.cell (p := ⟨1, i, none⟩) (cell_lt (h i hi))).trans (h i hi)
set_option maxHeartbeats 4000000 in
theorem pmake14_any (s : Sup) (hi : s.In) (w : World) (ht : Tab16 w) : Calls Tryd.prog 10 #[s.arg] w (SMakeTo s w) := by
  have HM := Lib.hid (fun w => pmay_any s hi w)
  have HB := Lib.hid (below1 w (.cells #[.int .i64 s.ver, .int .i64 s.root, .int .i64 s.ep, .int .i64 s.pag] 23))
  have HX := Lib.hid (heap_alloc_new w (.cells #[.int .i64 s.ver, .int .i64 s.root, .int .i64 s.ep, .int .i64 s.pag] 23))
  have HMk := Lib.hid (fun (n : Nat) (hp : s.ver % 2 = (n : Int)) (la : Option Addr) (c : Nat) (W : World) (hb : Below w.heap.size w W) (hin : InB W la s.body) (hnil : la = none → c = 0 ∧ s.body = []) => lmake_any (n : Int) 1 la 36 c s.body W (tab16_on ht hb) (by unfold okInt; omega) (by unfold okInt; omega) hin s.body_byte s.body_len hnil)
  clear ht
  show Calls _ _ #[.agg #[.int .i64 s.ver, .int .i64 s.root, .int .i64 s.ep, .int .i64 s.pag]] _ _
  cases h : s.ok with
  | false =>
    rw [h] at HM
    have HO := Lib.hid h
    clear h
    go_enter Tryd.func10, Tryd.ntmps10
    go_wp2_with fail
    refine (HM.out _).mono ?_
    rintro e w1 ⟨rfl, b1⟩
    have B1 := Lib.hid (below_then HB.out b1)
    clear b1
    go_wp2_with fail
    go_ret2
    exact SMakeTo.no HO.out B1.out
  | true =>
    rw [h] at HM
    have HO := Lib.hid h
    have HBd := Lib.hid (fun W => pbody_any s h W)
    have hv := (Sup.ok_yes h).1
    obtain ⟨p, hp2, hp⟩ := Sup.page h
    have HPl := Lib.hid (fun W => pplace_any s (by omega) p hp W)
    have HP := Lib.hid hp
    have HK := Lib.hid (HMk.out p hp)
    clear h hp
    unfold Sup.arg Sup.cells at HM HBd HPl
    go_enter Tryd.func10, Tryd.ntmps10
    go_wp2_with fail
    refine (HM.out _).mono ?_
    rintro e w1 ⟨rfl, b1⟩
    have B1 := Lib.hid (below_then HB.out b1)
    have x1 := row_then HX.out b1
    obtain ⟨c0, c1, c2, c3⟩ := box4_cells x1
    have X1 := Lib.hid x1
    clear b1 x1
    go_wp2_with fail
    go_region_held3 (fun w' => w'.cell? ⟨w.heap.size, 0, none⟩ = some (.int .i64 s.ver) ∧ w'.cell? ⟨w.heap.size, 1, none⟩ = some (.int .i64 s.root) ∧ w'.cell? ⟨w.heap.size, 2, none⟩ = some (.int .i64 s.ep) ∧ w'.cell? ⟨w.heap.size, 3, none⟩ = some (.int .i64 s.pag))
      (first
        | exact ⟨c0, c1, c2, c3⟩
        | exact k2
        | exact k3
        | exact k4
        | go_keep)
      (first
        | (go_at_call 32; refine (HK.out _ _ _ (below_then B1.out H3.out.2.2) H3.out.1 H3.out.2.1).mono ?_; rintro e w4 ⟨v4, rfl, o4, b4⟩; have H4 := Lib.hid (And.intro o4 (below_then H3.out.2.2 b4)); have k4 := box4_cells (row_then X1.out H4.out.2); clear o4 b4)
        | (go_at_call 34; refine (HBd.out _).mono ?_; rintro e w3 ⟨v3, rfl, o3, b3⟩; obtain ⟨a3, q3, e3, i3, n3, -, -⟩ := o3.shape; rw [s.body_len] at e3; subst e3; have H3 := Lib.hid (And.intro i3 (And.intro n3 (below_then H2.out b3))); have k3 := box4_cells (row_then X1.out H3.out.2.2); clear o3 b3 i3 n3)
        | (go_at_call 33; refine (HPl.out _).mono ?_; rintro e w2 ⟨rfl, b2⟩; have H2 := Lib.hid (below_then (Below.refl w1.heap.size w1).drew b2); have k2 := box4_cells (row_then X1.out H2.out); clear b2))
    clear k2 k3 k4 c0 c1 c2 c3
    go_wp2_with fail
    go_ret2
    exact SMakeTo.yes HO.out HP.out H4.out.1 (below_then B1.out H4.out.2) (Nat.le_trans B1.out.size H3.out.2.2.size)
end Go.Proofs.YtonjapphhbhcpaaDoor
namespace Go.Proofs.YtonjapphhbhcpaaDoor
open Go.RowKit
set_option maxRecDepth 100000

set_option maxHeartbeats 8000000 in
theorem popen14_any (number : Int) (la : Option Addr) (n c : Nat) (l : List Int) (w : World) (ht : Tab16 w) (h1 : okInt number) (hin : InB w la l) (hB : isB l) (hn : l.length = n) (hc : n ≤ c) (hl : n ≤ 140737488351232) :
    Calls Tryd.prog 13 #[.slice la n c, .int .i64 number] w (SOpenTo l number w) := by
  have HN := Lib.hid h1
  have HA := Lib.hid (And.intro hin (And.intro hB hn))
  have HB := Lib.hid (below1 w (.cells #[.int .i64 0, .int .i64 0, .int .i64 0, .int .i64 0] 23))
  have HT := Lib.hid (tab16_on ht HB.out)
  clear hin hB hn ht
  unfold okInt at h1
  have hx := heap_alloc_new w (.cells #[.int .i64 0, .int .i64 0, .int .i64 0, .int .i64 0] 23)
  have HX := Lib.hid hx
  by_cases hnum : number < 0 ∨ 1 < number
  · have HE := Lib.hid (show sopE l number = 1 by unfold sopE; rw [if_pos hnum])
    have f0 := box_frozen hx
    have c0 := row_cells hx
    have n0 : (number != 0) = true := by simp; omega
    have n1 : (number != 1) = true := by simp; omega
    clear hnum
    go_enter Tryd.func13, Tryd.ntmps13
    go_wp2_with fail
    clear f0
    simp [bodyPost, results, Tryd.results13, go_sem, c0]
    exact SOpenTo.bad HE.out (by decide) HB.out
  · have hnp : 0 ≤ number ∧ number ≤ 1 := by omega
    clear hnum
    have HO1 := Lib.hid (lopen_any number la n c l _ HT.out HN.out (HA.out.1.then_ HB.out) HA.out.2.1 HA.out.2.2 hc)
    have HQ : ((number != 0) = false) ∨ ((number != 0) = true ∧ (number != 1) = false) := by
      by_cases h0 : number = 0
      · left; simp [h0]
      · right; exact ⟨by simp [h0], by simp; omega⟩
    have main : ∀ (K : Act → World → Prop), True := fun _ => trivial
    clear main
    go_enter Tryd.func13, Tryd.ntmps13
    rcases HQ with q0 | ⟨q0, q1⟩
    all_goals
      go_wp2_with fail
      refine HO1.out.mono ?_
      rintro e w2 ⟨v2, rfl, o2, b2⟩
      have B2 := Lib.hid (below_then HB.out b2)
      have X2 := Lib.hid (row_then HX.out b2)
      obtain ⟨a2, c2, rfl, i2, n2, le2, -⟩ := o2.shape
      have H2 := Lib.hid (And.intro i2 (And.intro n2 o2))
      have f2 := box_frozen X2.out
      have r0 := row_cells X2.out 0
      have r1 := row_cells X2.out 1
      have r2 := row_cells X2.out 2
      have r3 := row_cells X2.out 3
      have hl2 : (openL l number).length ≤ 140737488351232 := by
        unfold openL
        split
        · have := List.length_take_le (lenG l).toNat (l.drop 11)
          rw [List.length_take, List.length_drop, HA.out.2.2]
          omega
        · exact Nat.zero_le _
      clear o2 b2 i2 n2 HO1
      by_cases he : openE l number = 0
      · have H140 := Lib.hid (fun h => sop_140 (l := l) hnp he h)
        have HS0 := Lib.hid (fun h1 h2 h3 h4 => sop_0 (l := l) hnp he h1 h2 h3 h4)
        have HXB := Lib.hid (openL_byte (number := number) HA.out.2.1)
        rw [he]
        clear he
        generalize openL l number = x at *
        generalize openK l number = kk at *
        have HTo := Lib.hid (ptold_any a2 x.length c2 x w2 H2.out.1 HXB.out rfl le2 hl2)
        unfold ToldTo at HTo
        have HTS := Lib.hid (show supGood x = true → tolS x = supOf x from fun h => by unfold tolS; rw [if_pos h])
        have HTI : Hid (tolS x).In := Lib.hid (by
          unfold tolS
          split
          · exact ⟨readP_ok HXB.out _, readP_ok HXB.out _, readP_ok HXB.out _, readP_ok HXB.out _⟩
          · exact Sup.In.zero)
        obtain ⟨s, hs⟩ : ∃ s, tolS x = s := ⟨_, rfl⟩
        rw [hs] at HTo HTS HTI
        clear hs
        cases hg : supGood x with
        | false =>
          rw [hg] at HTo
          have HE := Lib.hid (H140.out fun h => by rw [hg] at h; exact absurd h.2.1 (by decide))
          clear hg
          unfold Sup.arg Sup.cells at HTo
          by_cases hk : kk = 1
          · subst hk
            go_wp2_with fail
            refine HTo.out.mono ?_
            rintro e w3 ⟨rfl, b3⟩
            have B3 := Lib.hid (below_then B2.out (below_then b3 (below1 w3 (.cells #[.int .i64 s.ver, .int .i64 s.root, .int .i64 s.ep, .int .i64 s.pag] 23))))
            have X3 := Lib.hid (row_then X2.out (below_then b3 (below1 w3 (.cells #[.int .i64 s.ver, .int .i64 s.root, .int .i64 s.ep, .int .i64 s.pag] 23))))
            clear b3 f2 r0 r1 r2 r3
            have f2 := box_frozen X3.out
            have r0 := row_cells X3.out 0
            have r1 := row_cells X3.out 1
            have r2 := row_cells X3.out 2
            have r3 := row_cells X3.out 3
            go_wp2_with fail
            generalize hV : World.setCell _ _ _ = V
            obtain ⟨t1, t2⟩ := put4V X3.out hV
            have q := row_cells t2
            have HF := Lib.hid ((Only.of_below (S := []) B3.out).then_ t1 (fun z hz => .inr (by rw [List.mem_singleton.1 hz]; exact Nat.le_refl _))).below
            clear hV t1 t2 r0 r1 r2 r3 f2
            simp [bodyPost, results, Tryd.results13, go_sem, q]
            exact SOpenTo.bad HE.out (by decide) HF.out
          · have hkn : (kk != 1) = true := by simp [hk]
            clear hk
            go_wp2_with fail
            refine HTo.out.mono ?_
            rintro e w3 ⟨rfl, b3⟩
            have B3 := Lib.hid (below_then B2.out (below_then b3 (below1 w3 (.cells #[.int .i64 s.ver, .int .i64 s.root, .int .i64 s.ep, .int .i64 s.pag] 23))))
            have X3 := Lib.hid (row_then X2.out (below_then b3 (below1 w3 (.cells #[.int .i64 s.ver, .int .i64 s.root, .int .i64 s.ep, .int .i64 s.pag] 23))))
            clear b3 f2 r0 r1 r2 r3
            have f2 := box_frozen X3.out
            have r0 := row_cells X3.out 0
            have r1 := row_cells X3.out 1
            have r2 := row_cells X3.out 2
            have r3 := row_cells X3.out 3
            go_wp2_with fail
            generalize hV : World.setCell _ _ _ = V
            obtain ⟨t1, t2⟩ := put4V X3.out hV
            have q := row_cells t2
            have HF := Lib.hid ((Only.of_below (S := []) B3.out).then_ t1 (fun z hz => .inr (by rw [List.mem_singleton.1 hz]; exact Nat.le_refl _))).below
            clear hV t1 t2 r0 r1 r2 r3 f2
            simp [bodyPost, results, Tryd.results13, go_sem, q]
            exact SOpenTo.bad HE.out (by decide) HF.out
        | true =>
          rw [hg] at HTo
          have HG := Lib.hid hg
          have HSO := Lib.hid (HTS.out hg)
          rw [← HSO.out] at H140 HS0
          clear hg HTS
          have HM := Lib.hid (fun W => pmay_any s HTI.out W)
          unfold Sup.arg Sup.cells at HTo HM
          by_cases hk : kk = 1
          rotate_left
          · have hkn : (kk != 1) = true := by simp [hk]
            have HE := Lib.hid (H140.out fun h => hk h.1)
            clear hk
            go_wp2_with fail
            refine HTo.out.mono ?_
            rintro e w3 ⟨rfl, b3⟩
            have B3 := Lib.hid (below_then B2.out (below_then b3 (below1 w3 (.cells #[.int .i64 s.ver, .int .i64 s.root, .int .i64 s.ep, .int .i64 s.pag] 23))))
            have X3 := Lib.hid (row_then X2.out (below_then b3 (below1 w3 (.cells #[.int .i64 s.ver, .int .i64 s.root, .int .i64 s.ep, .int .i64 s.pag] 23))))
            clear b3 f2 r0 r1 r2 r3
            have f2 := box_frozen X3.out
            have r0 := row_cells X3.out 0
            have r1 := row_cells X3.out 1
            have r2 := row_cells X3.out 2
            have r3 := row_cells X3.out 3
            go_wp2_with fail
            generalize hV : World.setCell _ _ _ = V
            obtain ⟨t1, t2⟩ := put4V X3.out hV
            have q := row_cells t2
            have HF := Lib.hid ((Only.of_below (S := []) B3.out).then_ t1 (fun z hz => .inr (by rw [List.mem_singleton.1 hz]; exact Nat.le_refl _))).below
            clear hV t1 t2 r0 r1 r2 r3 f2
            simp [bodyPost, results, Tryd.results13, go_sem, q]
            exact SOpenTo.bad HE.out (by decide) HF.out
          subst hk
          go_wp2_with fail
          refine HTo.out.mono ?_
          rintro e w3 ⟨rfl, b3⟩
          have b3' := below_then b3 (below1 w3 (.cells #[.int .i64 s.ver, .int .i64 s.root, .int .i64 s.ep, .int .i64 s.pag] 23))
          have B3 := Lib.hid (below_then B2.out b3')
          have X3 := Lib.hid (row_then X2.out b3')
          have S3 := Lib.hid (heap_alloc_new w3 (.cells #[.int .i64 s.ver, .int .i64 s.root, .int .i64 s.ep, .int .i64 s.pag] 23))
          clear b3 b3' f2 r0 r1 r2 r3
          obtain ⟨s0, s1, s2, s3⟩ := box4_cells S3.out
          cases hok : s.ok with
          | false =>
            rw [hok] at HM
            have HE := Lib.hid (H140.out fun h => by rw [hok] at h; exact absurd h.2.2.1 (by decide))
            clear hok
            go_wp2_with fail
            refine (HM.out _).mono ?_
            rintro e w4 ⟨rfl, b4⟩
            have B4 := Lib.hid (below_then B3.out b4)
            have X4 := Lib.hid (row_then X3.out b4)
            clear b4 s0 s1 s2 s3
            have f2 := box_frozen X4.out
            have r0 := row_cells X4.out 0
            have r1 := row_cells X4.out 1
            have r2 := row_cells X4.out 2
            have r3 := row_cells X4.out 3
            go_wp2_with fail
            generalize hV : World.setCell _ _ _ = V
            obtain ⟨t1, t2⟩ := put4V X4.out hV
            have q := row_cells t2
            have HF := Lib.hid ((Only.of_below (S := []) B4.out).then_ t1 (fun z hz => .inr (by rw [List.mem_singleton.1 hz]; exact Nat.le_refl _))).below
            clear hV t1 t2 r0 r1 r2 r3 f2
            simp [bodyPost, results, Tryd.results13, go_sem, q]
            exact SOpenTo.bad HE.out (by decide) HF.out
          | true =>
            rw [hok] at HM
            have hv1 := (Sup.ok_yes hok).1
            obtain ⟨p, hp2, hp⟩ := Sup.page hok
            have HPl := Lib.hid (fun W => pplace_any s (by omega) p hp W)
            unfold Sup.arg Sup.cells at HPl
            clear hv1
            go_wp2_with fail
            refine (HM.out _).mono ?_
            rintro e w4 ⟨rfl, b4⟩
            have B4 := Lib.hid (below_then B3.out b4)
            have X4 := Lib.hid (row_then X3.out b4)
            have S4 := Lib.hid (row_then S3.out b4)
            clear b4 s0 s1 s2 s3
            obtain ⟨s0, s1, s2, s3⟩ := box4_cells S4.out
            by_cases hn : (p : Int) = number
            · have HE := Lib.hid (HS0.out (by trivial) HG.out hok (by rw [hp]; exact hn))
              have hnb : ((p : Int) != number) = false := by simp [hn]
              clear hok hn hp
              go_wp2_with fail
              refine (HPl.out _).mono ?_
              rintro e w5 ⟨rfl, b5⟩
              have B5 := Lib.hid (below_then B4.out b5)
              have X5 := Lib.hid (row_then X4.out b5)
              have S5 := Lib.hid (row_then S4.out b5)
              clear b5 s0 s1 s2 s3
              obtain ⟨s0, s1, s2, s3⟩ := box4_cells S5.out
              have f2 := box_frozen X5.out
              have r0 := row_cells X5.out 0
              have r1 := row_cells X5.out 1
              have r2 := row_cells X5.out 2
              have r3 := row_cells X5.out 3
              go_wp2_with fail
              generalize hV : World.setCell _ _ _ = V
              obtain ⟨t1, t2⟩ := put4V X5.out hV
              have q := row_cells t2
              have HF := Lib.hid ((Only.of_below (S := []) B5.out).then_ t1 (fun z hz => .inr (by rw [List.mem_singleton.1 hz]; exact Nat.le_refl _))).below
              clear hV t1 t2 r0 r1 r2 r3 f2 s0 s1 s2 s3
              simp [bodyPost, results, Tryd.results13, go_sem, q]
              exact ⟨by rw [HE.out.1, HE.out.2]; rfl, HF.out⟩
            · have HE := Lib.hid (H140.out fun h => by rw [hp] at h; exact hn h.2.2.2)
              have hnb : ((p : Int) != number) = true := by simp [hn]
              clear hok hn hp
              go_wp2_with fail
              refine (HPl.out _).mono ?_
              rintro e w5 ⟨rfl, b5⟩
              have B5 := Lib.hid (below_then B4.out b5)
              have X5 := Lib.hid (row_then X4.out b5)
              clear b5 s0 s1 s2 s3
              have f2 := box_frozen X5.out
              have r0 := row_cells X5.out 0
              have r1 := row_cells X5.out 1
              have r2 := row_cells X5.out 2
              have r3 := row_cells X5.out 3
              go_wp2_with fail
              generalize hV : World.setCell _ _ _ = V
              obtain ⟨t1, t2⟩ := put4V X5.out hV
              have q := row_cells t2
              have HF := Lib.hid ((Only.of_below (S := []) B5.out).then_ t1 (fun z hz => .inr (by rw [List.mem_singleton.1 hz]; exact Nat.le_refl _))).below
              clear hV t1 t2 r0 r1 r2 r3 f2
              simp [bodyPost, results, Tryd.results13, go_sem, q]
              exact SOpenTo.bad HE.out (by decide) HF.out
      · have hb : (openE l number != 0) = true := by simp [he]
        have HE := Lib.hid (show sopE l number = openE l number by unfold sopE; rw [if_neg (by omega), if_pos he])
        have HNZ := Lib.hid he
        clear he
        generalize openE l number = en at *
        generalize openL l number = x at *
        generalize openK l number = kk at *
        go_wp2_with fail
        generalize hV : World.setCell _ _ _ = V
        obtain ⟨t1, t2⟩ := put4V X2.out hV
        have q := row_cells t2
        have HF := Lib.hid ((Only.of_below (S := []) B2.out).then_ t1 (fun z hz => .inr (by rw [List.mem_singleton.1 hz]; exact Nat.le_refl _))).below
        clear hV t1 t2 f2 r0 r1 r2 r3
        simp [bodyPost, results, Tryd.results13, go_sem, q]
        exact SOpenTo.bad HE.out HNZ.out HF.out
end Go.Proofs.YtonjapphhbhcpaaDoor
namespace Go.Proofs.YtonjapphhbhcpaaDoor
open Go.RowKit
set_option maxRecDepth 100000

set_option maxHeartbeats 8000000 in
theorem pchoose_any (la : Option Addr) (na ca : Nat) (a : List Int) (lb : Option Addr) (nb cb : Nat) (b : List Int) (w : World) (ht : Tab16 w) (ia : InB w la a) (ba : isB a) (ha : a.length = na) (hca : na ≤ ca) (hla : na ≤ 140737488351232)
    (ib : InB w lb b) (bb : isB b) (hb : b.length = nb) (hcb : nb ≤ cb) (hlb : nb ≤ 140737488351232) :
    Calls Tryd.prog 17 #[.slice la na ca, .slice lb nb cb] w (SChTo a b w) := by
  have HB := Lib.hid (below1 w (.cells #[.int .i64 0, .int .i64 0, .int .i64 0, .int .i64 0] 23))
  have HX := Lib.hid (heap_alloc_new w (.cells #[.int .i64 0, .int .i64 0, .int .i64 0, .int .i64 0] 23))
  have C1 := Lib.hid (fun W (h : Below w.heap.size w W) => popen14_any 0 la na ca a W (tab16_on ht h) (by unfold okInt; omega) (ia.then_ h) ba ha hca hla)
  have C2 := Lib.hid (fun W (h : Below w.heap.size w W) => popen14_any 1 lb nb cb b W (tab16_on ht h) (by unfold okInt; omega) (ib.then_ h) bb hb hcb hlb)
  have HPK := Lib.hid (ch_pick a b)
  have HV := Lib.hid (show sopE a 0 = 0 → sopE b 1 = 0 → (sopS a 0).ver ≠ (sopS b 1).ver from fun h1 h2 => by
    have e1 := (sop_at h1).2.2.2.2.2.1
    have e2 := (sop_at h2).2.2.2.2.2.1
    intro e
    rw [e] at e1
    omega)
  clear ia ba ha ib bb hb ht
  go_enter Tryd.func17, Tryd.ntmps17
  go_wp2_with fail
  refine (C1.out _ HB.out).mono ?_
  rintro e w1 ⟨rfl, b1⟩
  obtain ⟨S, hS⟩ : ∃ S, sopS a 0 = S := ⟨_, rfl⟩
  obtain ⟨e1, he1⟩ : ∃ e, sopE a 0 = e := ⟨_, rfl⟩
  rw [hS, he1]
  have B1 := Lib.hid (below_then HB.out b1)
  have B1s := Lib.hid (below_then B1.out (below1 w1 (.cells S.cells 23)))
  have X1 := Lib.hid (row_then HX.out (below_then b1 (below1 w1 (.cells S.cells 23))))
  have XS := Lib.hid (heap_alloc_new w1 (.cells S.cells 23))
  clear b1
  unfold Sup.arg Sup.cells at *
  go_wp2_with fail
  refine (C2.out _ B1s.out).mono ?_
  rintro e w2 ⟨rfl, b2⟩
  obtain ⟨T, hT⟩ : ∃ T, sopS b 1 = T := ⟨_, rfl⟩
  obtain ⟨e2, he2⟩ : ∃ e, sopE b 1 = e := ⟨_, rfl⟩
  rw [hT, he2]
  rw [hS, he1, hT, he2] at HV
  have HPK2 := HPK.out
  rw [hS, he1, hT, he2] at HPK2
  have HPK3 := Lib.hid HPK2
  have b24 := below_then b2 (below1 w2 (.cells T.cells 23))
  have B4 := Lib.hid (below_then B1s.out b24)
  have XR := Lib.hid (row_then X1.out b24)
  have XS4 := Lib.hid (row_then XS.out b24)
  have XT4 := Lib.hid (heap_alloc_new w2 (.cells T.cells 23))
  have fr := box_frozen XR.out
  have r0 := row_cells XR.out 0
  have r1 := row_cells XR.out 1
  have r2 := row_cells XR.out 2
  have r3 := row_cells XR.out 3
  obtain ⟨s0, s1, s2, s3⟩ := box4_cells XS4.out
  obtain ⟨t0, t1', t2', t3⟩ := box4_cells XT4.out
  clear b2 b24 hS he1 hT he2 HPK2 HPK
  unfold Sup.arg Sup.cells at *
  by_cases h1 : e1 = 0
  · subst h1
    by_cases h2 : e2 = 0
    · subst h2
      have hv := HV.out rfl rfl
      by_cases h3 : S.ver < T.ver
      · have HE : Hid (chS a b = T ∧ chE a b = 0) := Lib.hid ⟨by rw [HPK3.out.1]; unfold pick2; rw [if_neg (by decide), if_pos ⟨rfl, h3⟩], by rw [HPK3.out.2]; simp⟩
        have h3d : decide (T.ver < S.ver) = false := decide_eq_false (by omega)
        clear h3 hv
        go_wp2_with fail
        generalize hV : World.setCell _ _ _ = V
        obtain ⟨t1, t2⟩ := put4V XR.out hV
        have q := row_cells t2
        have HF := Lib.hid ((Only.of_below (S := []) B4.out).then_ t1 (fun z hz => .inr (by rw [List.mem_singleton.1 hz]; exact Nat.le_refl _))).below
        clear hV t1 t2 fr r0 r1 r2 r3 s0 s1 s2 s3 t0 t1' t2' t3
        simp [bodyPost, results, Tryd.results17, go_sem, q]
        exact ⟨by rw [HE.out.1, HE.out.2]; rfl, HF.out⟩
      · have HE : Hid (chS a b = S ∧ chE a b = 0) := Lib.hid ⟨by rw [HPK3.out.1]; unfold pick2; rw [if_neg (by decide), if_neg (fun h => h3 h.2)], by rw [HPK3.out.2]; simp⟩
        have h3d : decide (T.ver < S.ver) = true := decide_eq_true (by omega)
        clear h3 hv
        go_wp2_with fail
        generalize hV : World.setCell _ _ _ = V
        obtain ⟨t1, t2⟩ := put4V XR.out hV
        have q := row_cells t2
        have HF := Lib.hid ((Only.of_below (S := []) B4.out).then_ t1 (fun z hz => .inr (by rw [List.mem_singleton.1 hz]; exact Nat.le_refl _))).below
        clear hV t1 t2 fr r0 r1 r2 r3 s0 s1 s2 s3 t0 t1' t2' t3
        simp [bodyPost, results, Tryd.results17, go_sem, q]
        exact ⟨by rw [HE.out.1, HE.out.2]; rfl, HF.out⟩
    · have h2b : (e2 == 0) = false := by simp [h2]
      have h2c : (e2 != 0) = true := by simp [h2]
      have HE : Hid (chS a b = S ∧ chE a b = 0) := Lib.hid ⟨by rw [HPK3.out.1]; unfold pick2; rw [if_neg (by decide), if_neg (fun h => h2 h.1)], by rw [HPK3.out.2]; simp⟩
      clear h2
      go_wp2_with fail
      generalize hV : World.setCell _ _ _ = V
      obtain ⟨t1, t2⟩ := put4V XR.out hV
      have q := row_cells t2
      have HF := Lib.hid ((Only.of_below (S := []) B4.out).then_ t1 (fun z hz => .inr (by rw [List.mem_singleton.1 hz]; exact Nat.le_refl _))).below
      clear hV t1 t2 fr r0 r1 r2 r3 s0 s1 s2 s3 t0 t1' t2' t3
      simp [bodyPost, results, Tryd.results17, go_sem, q]
      exact ⟨by rw [HE.out.1, HE.out.2]; rfl, HF.out⟩
  · have h1b : (e1 == 0) = false := by simp [h1]
    have h1c : (e1 != 0) = true := by simp [h1]
    by_cases h2 : e2 = 0
    · subst h2
      have HE : Hid (chS a b = T ∧ chE a b = 0) := Lib.hid ⟨by rw [HPK3.out.1]; unfold pick2; rw [if_pos h1, if_neg (by decide)], by rw [HPK3.out.2]; simp⟩
      clear h1
      go_wp2_with fail
      generalize hV : World.setCell _ _ _ = V
      obtain ⟨t1, t2⟩ := put4V XR.out hV
      have q := row_cells t2
      have HF := Lib.hid ((Only.of_below (S := []) B4.out).then_ t1 (fun z hz => .inr (by rw [List.mem_singleton.1 hz]; exact Nat.le_refl _))).below
      clear hV t1 t2 fr r0 r1 r2 r3 s0 s1 s2 s3 t0 t1' t2' t3
      simp [bodyPost, results, Tryd.results17, go_sem, q]
      exact ⟨by rw [HE.out.1, HE.out.2]; rfl, HF.out⟩
    · have h2b : (e2 == 0) = false := by simp [h2]
      have h2c : (e2 != 0) = true := by simp [h2]
      have HE : Hid (chS a b = Sup.zero ∧ chE a b = 140) := Lib.hid ⟨by rw [HPK3.out.1]; unfold pick2; rw [if_pos h1, if_pos h2], by rw [HPK3.out.2]; rw [if_pos ⟨h1, h2⟩]⟩
      clear h1 h2
      go_wp2_with fail
      generalize hV : World.setCell _ _ _ = V
      obtain ⟨t1, t2⟩ := put4V XR.out hV
      have q := row_cells t2
      have HF := Lib.hid ((Only.of_below (S := []) B4.out).then_ t1 (fun z hz => .inr (by rw [List.mem_singleton.1 hz]; exact Nat.le_refl _))).below
      clear hV t1 t2 fr r0 r1 r2 r3 s0 s1 s2 s3 t0 t1' t2' t3
      simp [bodyPost, results, Tryd.results17, go_sem, q]
      exact ⟨by rw [HE.out.1, HE.out.2]; rfl, HF.out⟩
end Go.Proofs.YtonjapphhbhcpaaDoor
