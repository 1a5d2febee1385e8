/- The law SuperPower over the contracts. No statement is proved here. -/
import Derived.Test.YtonjapphhbhcpaaDoorUEnvD
namespace Go.Proofs.YtonjapphhbhcpaaDoor
open Go.RowKit
set_option maxRecDepth 100000

set_option maxHeartbeats 16000000 in
theorem power_law {W : World} (P : P14 W) (D : P14D W) (s : Sup) (hs : s.In) (root ep acts : Int) (hr : okInt root) (he : okInt ep) (ha : okInt acts) (done : Bool) (ka : Option Addr) (kn kc : Nat) (kb : List Bool) (hk : InK W W.heap.size ka kb) (hkn : kb.length = kn) (hkc : kn ≤ kc ∧ kc ≤ 140737488351232) :
    Calls Tryd.prog 7 #[s.arg, .int .i64 root, .int .i64 ep, .int .i64 acts, .bool done, .slice ka kn kc] W fun e w' => e = .returned (.bool true) ∧ Below W.heap.size W w' := by
  have HP := Lib.hid P
  have HD := Lib.hid D
  have HK := Lib.hid (And.intro hk hkn)
  have HI := Lib.hid (And.intro hs ha)
  obtain ⟨hkc1, hkc2⟩ := hkc
  obtain ⟨t, ht⟩ : ∃ t : Sup, t = ⟨IntKind.i64.wrap (s.ver + 1), root, ep, s.pag⟩ := ⟨_, rfl⟩
  have hti : t.In := by
    rw [ht]
    exact ⟨by unfold okInt; have := IntKind.wrap_i64 (s.ver + 1); show -9223372036854775808 ≤ IntKind.i64.wrap (s.ver + 1) ∧ IntKind.i64.wrap (s.ver + 1) ≤ 9223372036854775807; rw [this]; omega, hr, he, hs.pag⟩
  have e1 : IntKind.i64.wrap (s.ver + 1) = t.ver := by rw [ht]
  have e2 : root = t.root := by rw [ht]
  have e3 : ep = t.ep := by rw [ht]
  have e4 : s.pag = t.pag := by rw [ht]
  have HT := Lib.hid (And.intro hti (And.intro e1 e4))
  subst e2
  subst e3
  clear P D hs hr he ha hk hkn ht hti e4
  have HB0 := Lib.hid (below1 W (.cells #[.int .i64 s.ver, .int .i64 s.root, .int .i64 s.ep, .int .i64 s.pag] 23))
  have HX0 := Lib.hid (heap_alloc_new W (.cells #[.int .i64 s.ver, .int .i64 s.root, .int .i64 s.ep, .int .i64 s.pag] 23))
  show Calls _ _ #[.agg #[.int .i64 s.ver, .int .i64 s.root, .int .i64 s.ep, .int .i64 s.pag], _, _, _, _, _] _ _
  go_enter Tryd.func7, Tryd.ntmps7
  go_wp2_with fail
  refine (awake14_any HP.out _ HB0.out).mono ?_
  rintro e w1 ⟨rfl, b1⟩
  have B1 := Lib.hid (below_then HB0.out b1)
  have X1 := Lib.hid (row_then HX0.out b1)
  obtain ⟨c0, c1, c2, c3⟩ := box4_cells X1.out
  clear b1
  have hb2 := below1 w1 (.cells #[.int .i64 t.ver, .int .i64 t.root, .int .i64 t.ep, .int .i64 s.pag] 23)
  have B2 := Lib.hid (below_then B1.out hb2)
  have X2 := Lib.hid (row_then X1.out hb2)
  have Y2 := Lib.hid (show (w1.alloc (.cells #[.int .i64 t.ver, .int .i64 t.root, .int .i64 t.ep, .int .i64 s.pag] 23)).heap[w1.heap.size]? = some (.cells #[.int .i64 t.ver, .int .i64 t.root, .int .i64 t.ep, .int .i64 t.pag] 23) from by rw [← HT.out.2.2]; exact heap_alloc_new _ _)
  obtain ⟨d0, d1, d2, d3⟩ := box4_cells X2.out
  have HM1 := Lib.hid (HP.out.make s _ B2.out HI.out.1)
  unfold SMakeTo Sup.arg Sup.cells at HM1
  have hb3 := hb2.size
  clear B1 X1 hb2
  go_wp2_with fail
  clear c0 c1 c2 c3 d0 d1 d2 d3 e1 HB0 HX0
  generalize hw2 : w1.alloc (.cells #[.int .i64 t.ver, .int .i64 t.root, .int .i64 t.ep, .int .i64 s.pag] 23) = w2 at *
  generalize w1.heap.size = bt at *
  clear hw2 hb3
  refine HM1.out.mono ?_
  rintro e w3 ⟨v3, rfl, -, b3⟩
  have B3 := Lib.hid (below_then B2.out b3)
  have X3 := Lib.hid (row_then X2.out b3)
  have Y3 := Lib.hid (row_then Y2.out b3)
  clear HM1 b3 X2 Y2 B2
  obtain ⟨c0, c1, c2, c3⟩ := box4_cells Y3.out
  have HM2 := Lib.hid (HP.out.make t _ B3.out HT.out.1)
  unfold SMakeTo Sup.arg Sup.cells at HM2
  go_wp2_with fail
  refine HM2.out.mono ?_
  rintro e w4 ⟨v4, rfl, -, b4⟩
  have B4 := Lib.hid (below_then B3.out b4)
  have X4 := Lib.hid (row_then X3.out b4)
  have Y4 := Lib.hid (row_then Y3.out b4)
  clear HM2 b4 X3 Y3 B3 c0 c1 c2 c3
  cases hok : s.ok with
  | false =>
    have hE : s.makeE = 1 := by unfold Sup.makeE; rw [hok]; rfl
    rw [hE]
    go_wp2_with fail
    go_ret
    exact ⟨rfl, B4.out⟩
  | true =>
    have hE : s.makeE = 0 := by unfold Sup.makeE; rw [hok]; rfl
    rw [hE]
    cases hok2 : t.ok with
    | false =>
      have hE2 : t.makeE = 1 := by unfold Sup.makeE; rw [hok2]; rfl
      rw [hE2]
      go_wp2_with fail
      go_ret
      exact ⟨rfl, B4.out⟩
    | true =>
      have hE2 : t.makeE = 0 := by unfold Sup.makeE; rw [hok2]; rfl
      rw [hE2]
      have k1 := Sup.ok_yes hok
      have hver : t.ver = s.ver + 1 := by rw [← HT.out.2.1, IntWalk.i64_in _ (by omega)]
      obtain ⟨n, hn⟩ : ∃ n : Nat, (n : Int) = 8 * s.pag := ⟨(8 * s.pag).toNat, by omega⟩
      have hwr : IntKind.i64.wrap (8 * s.pag) = (n : Int) := by rw [IntWalk.i64_in _ (by omega), hn]
      have hpp := power_pure hok hok2 hver HT.out.2.2.symm n hn acts done kb
      have HPW := Lib.hid (And.intro hok (And.intro hok2 hpp))
      have hnb : n ≤ 524288 := by omega
      have hvn : s.ver ≠ t.ver := by omega
      obtain ⟨c0, c1, c2, c3⟩ := box4_cells X4.out
      clear hok hok2 hE hE2 k1 hver hn hpp
      have HN := Lib.hid (new_any n (by omega) w4)
      go_wp2_with fail
      refine HN.out.mono ?_
      rintro e w5 ⟨h, g, rfl, hh, hlt, hbx, b5⟩
      have hBB := B4.out.size
      have U5 : Hid (USt W w5 w4.heap.size h g W.heap.size bt s t (Dk.new n) 0) := Lib.hid ⟨hbx, hh, row_then X4.out b5, row_then Y4.out b5, below_then B4.out b5⟩
      have hKB := Lib.hid (HK.out.1.up hBB)
      have hK4 := Lib.hid ((HK.out.1.then_ B4.out).up hBB)
      clear HN hh hlt hbx b5 X4 Y4 c0 c1 c2 c3 hwr
      have hB8 := B4.out
      generalize w4.heap.size = B at *
      obtain ⟨wd, hwd⟩ : ∃ wd, wd = w5.drew.alloc (.cells #[.pointer (some ⟨g, 0, none⟩)] 93) := ⟨_, rfl⟩
      have hbd : Below w5.heap.size w5 wd := by rw [hwd]; exact ((Below.refl w5.heap.size w5).drew).alloc (Nat.le_refl _) _
      have UD := Lib.hid (U5.out.then_ hbd)
      have hdd : wd.heap[w5.heap.size]? = some (.cells #[.pointer (some ⟨g, 0, none⟩)] 93) := by rw [hwd]; exact heap_alloc_new w5.drew _
      have HDK := Lib.hid (disk_any h g w5.drew (row_cells U5.out.hand 0))
      rw [← hwd] at HDK
      have HWR := Lib.hid (HD.out.write w5.heap.size g s wd B 0 (Dk.new n) UD.out.below HI.out.1 hdd UD.out.box (by omega) (fun y e => by cases e))
      rw [HPW.out.2.2.1] at HWR
      unfold Sup.arg Sup.cells at HWR
      obtain ⟨D1, hD1⟩ : ∃ D1, D1 = ((Dk.new n).swr s).2 := ⟨_, rfl⟩
      rw [← hD1] at HWR
      have HPX := HPW.out.2.2.2
      rw [← hD1] at HPX
      have HPY := Lib.hid HPX
      have HA1 : Hid D1.allB := Lib.hid (by rw [hD1]; exact (Dk.allB.new n).swr s)
      have kA := U5.out.cells.1
      have kD := UD.out.cells.1
      clear hwd hbd hdd hD1 HPW HPX
      go_wp2_with fail
      go_region_held3 (fun w' => w'.cell? ⟨W.heap.size, 0, none⟩ = some (.int .i64 s.ver) ∧ w'.cell? ⟨W.heap.size, 1, none⟩ = some (.int .i64 s.root) ∧ w'.cell? ⟨W.heap.size, 2, none⟩ = some (.int .i64 s.ep) ∧ w'.cell? ⟨W.heap.size, 3, none⟩ = some (.int .i64 s.pag))
        (first
          | exact kA
          | exact kD
          | exact kE
          | go_keep)
        (first
          | (go_at_call 25; refine HDK.out.mono ?_; rintro e wx ⟨rfl, rfl⟩)
          | (go_at_call 24; refine HWR.out.mono ?_; rintro e w6 ⟨rfl, hbx, htu⟩; have U6 := Lib.hid (UD.out.turn hBB hbx htu); have kE := U6.out.cells.1; clear hbx htu))
      rw [errV_zero]
      clear kA kD kE HWR HDK UD U5
      have UH := U6.out.hand
      have HAR := Lib.hid (arm_any h g acts done w6 B _ D1 HI.out.2 (row_cells UH 0) U6.out.box)
      clear UH
      go_wp2_with fail
      refine HAR.out.mono ?_
      rintro e w7 ⟨rfl, hbx, htu⟩
      have U7 := Lib.hid (U6.out.turn hBB hbx htu)
      clear HAR hbx htu U6
      obtain ⟨wd, hwd⟩ : ∃ wd, wd = w7.drew.alloc (.cells #[.pointer (some ⟨g, 0, none⟩)] 93) := ⟨_, rfl⟩
      have hbd : Below w7.heap.size w7 wd := by rw [hwd]; exact ((Below.refl w7.heap.size w7).drew).alloc (Nat.le_refl _) _
      have UD := Lib.hid (U7.out.then_ hbd)
      have hdd : wd.heap[w7.heap.size]? = some (.cells #[.pointer (some ⟨g, 0, none⟩)] 93) := by rw [hwd]; exact heap_alloc_new w7.drew _
      have HDK := Lib.hid (disk_any h g w7.drew (row_cells U7.out.hand 0))
      rw [← hwd] at HDK
      have HWR := Lib.hid (HD.out.write w7.heap.size g t wd B 8 (D1.arm acts done) UD.out.below HT.out.1 hdd UD.out.box (by omega) (fun y e => by cases e))
      unfold Sup.arg Sup.cells at HWR
      have HA2 : Hid ((D1.arm acts done).swr t).2.allB := Lib.hid ((HA1.out.arm acts done).swr t)
      obtain ⟨⟨er, D2⟩, hD2⟩ : ∃ D2, D2 = (D1.arm acts done).swr t := ⟨_, rfl⟩
      rw [← hD2] at HWR HPY HA2
      dsimp only at HWR HPY HA2
      have kA := U7.out.cells.2
      have kD := UD.out.cells.2
      clear hwd hbd hdd hD2 HA1
      go_wp2_with fail
      go_region_held3 (fun w' => w'.cell? ⟨bt, 0, none⟩ = some (.int .i64 t.ver) ∧ w'.cell? ⟨bt, 1, none⟩ = some (.int .i64 t.root) ∧ w'.cell? ⟨bt, 2, none⟩ = some (.int .i64 t.ep) ∧ w'.cell? ⟨bt, 3, none⟩ = some (.int .i64 t.pag))
        (first
          | exact kA
          | exact kD
          | exact kE
          | go_keep)
        (first
          | (go_at_call 25; refine HDK.out.mono ?_; rintro e wx ⟨rfl, rfl⟩)
          | (go_at_call 24; refine HWR.out.mono ?_; rintro e w8 ⟨rfl, hbx, htu⟩; have U8 := Lib.hid (UD.out.turn hBB hbx htu); have kE := U8.out.cells.2; clear hbx htu))
      clear kA kD kE HWR HDK UD U7
      have HCR := Lib.hid (crash_any h g ka kn kc kb w8 B _ D2 U8.out.hand U8.out.box ((HK.out.1.then_ U8.out.below).up hBB) HK.out.2 (by omega) (by omega))
      go_wp2_with fail
      refine HCR.out.mono ?_
      rintro e w9 ⟨rfl, hbx, htu⟩
      have U9 := Lib.hid (U8.out.turn hBB hbx htu)
      clear HCR hbx htu U8
      have HA3 : Hid (D2.crash kb).byte := Lib.hid ((HA2.out.crash kb).byte U9.out.box.1)
      go_wp2_with fail
      refine (disk_any h g w9 (row_cells U9.out.hand 0)).mono ?_
      rintro e wx ⟨rfl, hwx⟩
      have UX := Lib.hid (U9.out.then_ (w' := wx) (by rw [hwx]; exact below1 _ _))
      have hdd : wx.heap[w9.heap.size]? = some (.cells #[.pointer (some ⟨g, 0, none⟩)] 93) := by rw [hwx]; exact heap_alloc_new w9 _
      have HRD := Lib.hid (HD.out.read w9.heap.size g wx B _ (D2.crash kb) UX.out.below hdd UX.out.box HA3.out)
      rw [HPY.out.1, errV_zero] at HRD
      obtain ⟨hp1, hp2, hp3⟩ := HPY.out
      obtain ⟨r, hr⟩ : ∃ r, r = (D2.crash kb).srS := ⟨_, rfl⟩
      rw [← hr] at HRD hp2 hp3
      unfold Sup.arg Sup.cells at HRD
      have HRR := Lib.hid (And.intro hp2 hp3)
      clear hwx hdd U9 HA2 HA3 HPY hp1 hp2 hp3 hr
      go_wp2_with fail
      refine HRD.out.mono ?_
      rintro e w10 ⟨rfl, b10⟩
      have b11 := below_then b10 (below1 w10 (.cells #[.int .i64 r.ver, .int .i64 r.root, .int .i64 r.ep, .int .i64 r.pag] 23))
      have U11 := Lib.hid (UX.out.then_ b11)
      obtain ⟨⟨s0, s1, s2, s3⟩, t0, t1, t2, t3⟩ := U11.out.cells
      obtain ⟨r0, r1, r2, r3⟩ := box4_cells (heap_alloc_new w10 (.cells #[.int .i64 r.ver, .int .i64 r.root, .int .i64 r.ep, .int .i64 r.pag] 23))
      clear HRD b10 b11 UX
      have hge := fun op x y a b W => sup_eqg op x y a b W
      have q1 := fun W => sup_eql r.ver r.root r.ep r.pag s.ver s.root s.ep s.pag W
      have q2 := fun W => sup_eql r.ver r.root r.ep r.pag t.ver t.root t.ep t.pag W
      by_cases he : er = 0
      · subst he
        have hrt : r = t := HRR.out.1 rfl
        subst hrt
        rw [errV_zero]
        simp only [and_self, decide_true] at q2
        clear HRR q1
        go_wp2_with fail
        go_ret
        exact ⟨rfl, U11.out.below⟩
      · rw [errV_mk he]
        rcases HRR.out.2 with hrt | hrt
        · subst hrt
          simp only [and_self, decide_true] at q1
          clear HRR q2
          go_wp2_with fail
          go_ret
          exact ⟨rfl, U11.out.below⟩
        · subst hrt
          have hds : decide (r.ver = s.ver ∧ r.root = s.root ∧ r.ep = s.ep ∧ r.pag = s.pag) = false := decide_eq_false fun k => hvn k.1.symm
          simp only [and_self, decide_true] at q2
          simp only [hds] at q1
          clear HRR hds
          go_wp2_with fail
          go_ret
          exact ⟨rfl, U11.out.below⟩
end Go.Proofs.YtonjapphhbhcpaaDoor
