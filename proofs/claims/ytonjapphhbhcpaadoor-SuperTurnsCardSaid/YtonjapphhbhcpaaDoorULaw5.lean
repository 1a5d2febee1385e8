/- The law SuperTurns over the contracts. No statement is proved here. -/
import Derived.Test.YtonjapphhbhcpaaDoorURow
import Derived.Test.YtonjapphhbhcpaaDoorULaw3
import Derived.Test.YtonjapphhbhcpaaDoorYI
namespace Go.Proofs.YtonjapphhbhcpaaDoor
open Go.RowKit
set_option maxRecDepth 100000

theorem and15U (n : Int) : bits .and .i64 n 15 = n % 16 := by
  have key : (BitVec.ofInt 64 n &&& BitVec.ofInt 64 15).toNat = (n % 16).toNat := by
    rw [BitVec.toNat_and, show (BitVec.ofInt 64 15).toNat = 2 ^ 4 - 1 by decide, Nat.and_two_pow_sub_one_eq_mod, BitVec.toNat_ofInt]
    omega
  show IntKind.i64.wrap ((BitVec.ofInt 64 n &&& BitVec.ofInt 64 15).toNat : Nat) = _
  rw [key, IntKind.wrap_i64]
  omega
theorem info_super : (Tryd.prog.info? 23).map (fun i => (i.zero, i.size, i.bytes)) = some (some (.agg #[.int .i64 0, .int .i64 0, .int .i64 0, .int .i64 0]), 4, 32) := by kernel_rfl
def tL (P : Int) (rs : List Int) (j : Nat) : List Sup := (List.range j).map (tS P rs)
theorem tL_len (P : Int) (rs : List Int) (j : Nat) : (tL P rs j).length = j := by simp [tL]
theorem tL_snoc (P : Int) (rs : List Int) (j : Nat) : tL P rs (j + 1) = tL P rs j ++ [tS P rs j] := by simp [tL, List.range_succ]
theorem tL_get (P : Int) (rs : List Int) {i j : Nat} (h : i < j) : (tL P rs j)[i]? = some (tS P rs i) := by simp [tL, h]
set_option maxHeartbeats 16000000 in
theorem turns_law {W : World} (P : P14 W) (D : P14D W) (s : Sup) (hs : s.In) (ra : Option Addr) (rn rc : Nat) (rs : List Int) (hr : InI W ra rs) (hrn : rs.length = rn) (hrc : rn ≤ rc ∧ rc ≤ 140737488351232) :
    Calls Tryd.prog 8 #[s.arg, .slice ra rn rc] W fun e w' => e = .returned (.bool true) ∧ Below W.heap.size W w' := by
  have HP := Lib.hid P
  have HD := Lib.hid D
  have HR := Lib.hid (And.intro hr hrn)
  obtain ⟨hrc1, hrc2⟩ := hrc
  clear P D hs hr hrn
  obtain ⟨i0, hi0, hz0, hz1, hz2⟩ := info_parts info_super
  have I0 := Lib.hid (And.intro hi0 (And.intro hz0 (And.intro hz1 hz2)))
  clear hi0 hz0 hz1 hz2
  have HB0 := Lib.hid (below1 W (.cells #[.int .i64 s.ver, .int .i64 s.root, .int .i64 s.ep, .int .i64 s.pag] 23))
  have HX0 := Lib.hid (heap_alloc_new W (.cells #[.int .i64 s.ver, .int .i64 s.root, .int .i64 s.ep, .int .i64 s.pag] 23))
  show Calls _ _ #[.agg #[.int .i64 s.ver, .int .i64 s.root, .int .i64 s.ep, .int .i64 s.pag], _] _ _
  go_enter Tryd.func8, Tryd.ntmps8
  go_wp2_with fail
  refine (awake14_any HP.out _ HB0.out).mono ?_
  rintro e w1 ⟨rfl, b1⟩
  have B1 := Lib.hid (below_then HB0.out b1)
  have X1 := Lib.hid (row_then HX0.out b1)
  obtain ⟨c0, c1, c2, c3⟩ := box4_cells X1.out
  have hand := and7 s.pag
  obtain ⟨P, hP⟩ : ∃ P, P = 16 + s.pag % 8 := ⟨_, rfl⟩
  have hP1 : 16 ≤ P := by omega
  have hP2 : P ≤ 23 := by omega
  obtain ⟨n, hn⟩ : ∃ n : Nat, (n : Int) = 8 * P := ⟨(8 * P).toNat, by omega⟩
  have fr : w1.frozen? ⟨W.heap.size, 3, none⟩ = false := by simp [World.frozen?, X1.out]
  have k3 : (w1.setCell ⟨W.heap.size, 3, none⟩ (.int .i64 P)).cell? ⟨W.heap.size, 3, none⟩ = some (.int .i64 P) := row_cells (set_heap X1.out (i := 3) (.int .i64 P)) 3
  clear b1
  go_wp2_with fail
  rw [← hP, ← hn]
  have XP := Lib.hid (set_heap X1.out (i := 3) (.int .i64 P))
  have BP := Lib.hid (show Below W.heap.size W (w1.setCell ⟨W.heap.size, 3, none⟩ (.int .i64 P)) from B1.out.setCell (p := ⟨W.heap.size, 3, none⟩) (Nat.le_refl _) _)
  clear hand hP c0 c1 c2 c3 fr k3 HB0 HX0
  generalize w1.setCell ⟨W.heap.size, 3, none⟩ (.int .i64 P) = w2 at *
  clear B1 X1
  have HN := Lib.hid (new_any n (by omega) w2)
  have hBB := BP.out.size
  refine HN.out.mono ?_
  rintro e w5 ⟨h, g, rfl, hh, hlt, hbx, b5⟩
  have U5 : Hid (TSt W w5 w2.heap.size h g W.heap.size ⟨s.ver, s.root, s.ep, P⟩ (.slice none 0 0) [] (Dk.new n) 0) := Lib.hid ⟨hbx, hh, row_then XP.out b5, OwnU.nil _ _, below_then BP.out b5⟩
  clear HN hh hlt hbx b5 XP BP
  generalize w2.heap.size = B at *
  go_wp2_with fail
  go_loopw [7, 8] (fun pv i wr => ∃ j : Nat, j ≤ rn ∧ j ≤ 20 ∧ i = .int .i64 (j : Int) ∧ Hid (∃ d x, TSt W wr B h g W.heap.size x pv (tL P rs j) d (8 * j) ∧ TG P rs j d ∧ x.pag = P ∧ (1 ≤ j → x.ver = j))) (fun _ i _ => 20 - (intOf i).toNat)
  case atStart => exact ⟨0, by omega, by omega, rfl, Lib.hid ⟨_, _, U5.out, TG.new rs hn, rfl, fun h => by omega⟩⟩
  case round =>
    obtain ⟨j, hj, hj20, rfl, HK⟩ := hrel
    obtain ⟨d, x, hst, hg, hx, hxv⟩ := HK.out
    have HS := Lib.hid hst
    have HG := Lib.hid hg
    clear HK U5
    by_cases hlt : j < rn ∧ j < 20
    · obtain ⟨hlt1, hlt2⟩ := hlt
      obtain ⟨bo, oo, xr, rfl, hxr, hcx⟩ := HR.out.1.one (i := j) (by rw [HR.out.2]; exact hlt1)
      have hand := and15U xr
      have hbo : bo < W.heap.size := cell_lt hcx
      have hcr : wr.cell? ⟨bo, oo + j, none⟩ = some (.int .i64 xr) := (HS.out.below.cell hbo).trans hcx
      have hone := HS.out.one
      obtain ⟨c0, c1, c2, c3⟩ := box4_cells hone
      have fr := fun k => (show wr.frozen? ⟨W.heap.size, k, none⟩ = false from by simp [World.frozen?, hone])
      have f0 := fr 0
      have f1 := fr 1
      have f2 := fr 2
      clear hst hg hone hcx
      go_wp2_with fail
      have hT : (⟨1 + (j : Int), xr % 16, 1 + (j : Int) / 3, x.pag⟩ : Sup) = tS P rs j := by unfold tS; rw [hxr, hx]; rfl
      have hset := HS.out.set3 (Nat.le_refl _) (1 + (j : Int)) (xr % 16) (1 + (j : Int) / 3)
      rw [hT] at hset
      have hTo := tS_ok rs hP1 hP2 (show j ≤ 19 by omega)
      have hTv : (tS P rs j).ver = ((j + 1 : Nat) : Int) := by show 1 + (j : Int) = _; omega
      have hTp : (tS P rs j).pag = P := rfl
      have hstep := HG.out.step hP1 hP2 (show j ≤ 19 by omega)
      have hread := fun (d : Dk) (k : TG P rs (j + 1) d) => k.read hP1
      have hsn := tL_snoc P rs j
      generalize hTT : tS P rs j = T at hset hTo hTv hTp hstep hread hsn
      have HT := Lib.hid (And.intro hTo (And.intro hTv hTp))
      have HSN := Lib.hid hsn
      have HRD0 := Lib.hid hread
      have US := Lib.hid hset
      clear hT hset hTo hTv hTp hread hsn hTT hxr hxv hx c0 c1 c2 c3 f0 f1 f2 fr hcr hand HS
      generalize ((wr.setCell ⟨W.heap.size, 0, none⟩ (.int .i64 (1 + (j : Int)))).setCell ⟨W.heap.size, 1, none⟩ (.int .i64 (xr % 16))).setCell ⟨W.heap.size, 2, none⟩ (.int .i64 (1 + (j : Int) / 3)) = w5 at *
      obtain ⟨wd, hwd⟩ : ∃ wd, wd = w5.drew.alloc (.cells #[.pointer (some ⟨g, 0, none⟩)] 93) := ⟨_, rfl⟩
      have hbd : Below w5.heap.size w5 wd := by rw [hwd]; exact ((Below.refl w5.heap.size w5).drew).alloc (Nat.le_refl _) _
      have UD := Lib.hid (US.out.then_ hbd)
      have hdd : wd.heap[w5.heap.size]? = some (.cells #[.pointer (some ⟨g, 0, none⟩)] 93) := by rw [hwd]; exact heap_alloc_new w5.drew _
      have HDK := Lib.hid (disk_any h g w5.drew (row_cells US.out.hand 0))
      rw [← hwd] at HDK
      have HWR := Lib.hid (HD.out.write w5.heap.size g T wd B (8 * j) d UD.out.below (Sup.In.of_ok HT.out.1) hdd UD.out.box (by omega) (fun y e => by cases e))
      rw [hstep.1] at HWR
      have HG2 := Lib.hid hstep.2
      unfold Sup.arg Sup.cells at HWR
      generalize (d.swr T).2 = d2 at HWR HG2
      have kA := box4_cells US.out.one
      have kD := box4_cells UD.out.one
      clear hwd hbd hdd hstep HG
      go_wp2_with fail
      go_region_held3 (fun w' => w'.cell? ⟨W.heap.size, 0, none⟩ = some (.int .i64 T.ver) ∧ w'.cell? ⟨W.heap.size, 1, none⟩ = some (.int .i64 T.root) ∧ w'.cell? ⟨W.heap.size, 2, none⟩ = some (.int .i64 T.ep) ∧ w'.cell? ⟨W.heap.size, 3, none⟩ = some (.int .i64 T.pag))
        (first
          | exact kA
          | exact kD
          | exact kE
          | go_keep)
        (first
          | (go_at_call 25; refine HDK.out.mono ?_; rintro e wx ⟨rfl, rfl⟩)
          | (go_at_call 24; refine HWR.out.mono ?_; rintro e w6 ⟨rfl, hbx, htu⟩; have U6 := Lib.hid (UD.out.turn hBB hbx htu); have kE := box4_cells U6.out.one; clear hbx htu))
      rw [errV_zero]
      clear kA kD HWR HDK UD US
      obtain ⟨e0, e1, e2, e3⟩ := kE
      have UA := Lib.hid (U6.out.then_ (below1 w6 (.cells #[.int .i64 T.ver, .int .i64 T.root, .int .i64 T.ep, .int .i64 T.pag] 23)))
      have hown := UA.out.put
      unfold OwnU at hown
      rw [tL_len] at hown
      have HOW := Lib.hid hown
      have hbs := lt_of_block UA.out.one
      clear hown
      go_wp2_with (show wpList _ _ _ (⟨some 55, _, _, _, _, _⟩ :: _) _ _; go_loud (refine wpList_append_own_at _ rfl (.tmp 52) (.tmp 54) 60 rfl (W.heap.size + 1) 23 i0 _ 4 32 Tryd.underlying60 I0.out.1 I0.out.2.1 I0.out.2.2.1 I0.out.2.2.2 rfl (by decide) _ j _ rfl HOW.out ⟨w6.heap.size, 0, none⟩ 1 1 [.int .i64 T.ver, .int .i64 T.root, .int .i64 T.ep, .int .i64 T.pag] rfl rfl (fun j u hu => news_at w6 #[.int .i64 T.ver, .int .i64 T.root, .int .i64 T.ep, .int .i64 T.pag] 23 _ rfl j u hu) (by intro u hu; simp at hu; rcases hu with rfl | rfl | rfl | rfl <;> rfl) (by unfold maxLen; omega) (by omega) hbs ?_; intro v7 w7 own7 grow7 _ hob7; have G7 := Lib.hid (And.intro own7 grow7); clear own7 grow7 hob7))
      have U7 : Hid (TSt W w7 B h g W.heap.size T v7 (tL P rs (j + 1)) d2 (8 * j + 8)) := Lib.hid (UA.out.grow (Nat.le_refl _) (by
        unfold OwnU
        rw [HSN.out, supC_snoc, List.length_append, List.length_singleton, tL_len]
        exact G7.out.1) G7.out.2)
      clear G7 HOW UA U6 HSN hbs e0 e1 e2 e3
      refine (disk_any h g w7 (row_cells U7.out.hand 0)).mono ?_
      rintro e wx ⟨rfl, hwx⟩
      have UX := Lib.hid (U7.out.then_ (w' := wx) (by rw [hwx]; exact below1 _ _))
      have hdd : wx.heap[w7.heap.size]? = some (.cells #[.pointer (some ⟨g, 0, none⟩)] 93) := by rw [hwx]; exact heap_alloc_new w7 _
      have HRD := Lib.hid (HD.out.read w7.heap.size g wx B _ d2 UX.out.below hdd UX.out.box (HG2.out.all.byte HG2.out.live.ok))
      rw [(HRD0.out d2 HG2.out).1, (HRD0.out d2 HG2.out).2, errV_zero] at HRD
      unfold Sup.arg Sup.cells at HRD
      clear hwx hdd U7
      go_wp2_with fail
      refine HRD.out.mono ?_
      rintro e w10 ⟨rfl, b10⟩
      have b11 := below_then b10 (below1 w10 (.cells #[.int .i64 T.ver, .int .i64 T.root, .int .i64 T.ep, .int .i64 T.pag] 23))
      have U11 := Lib.hid (UX.out.then_ b11)
      obtain ⟨s0, s1, s2, s3⟩ := box4_cells U11.out.one
      obtain ⟨r0, r1, r2, r3⟩ := box4_cells (heap_alloc_new w10 (.cells #[.int .i64 T.ver, .int .i64 T.root, .int .i64 T.ep, .int .i64 T.pag] 23))
      clear HRD b10 b11 UX
      have hge := fun op x y a b W => sup_eqg op x y a b W
      have q1 := fun W => sup_neq T.ver T.root T.ep T.pag T.ver T.root T.ep T.pag W
      simp only [and_self, decide_true, Bool.not_true] at q1
      go_wp2_with fail
      go_roundw
      case rel => exact ⟨j + 1, by omega, by omega, by go_num, Lib.hid ⟨d2, T, U11.out, HG2.out, HT.out.2.2, fun _ => HT.out.2.1⟩⟩
      case measure => simp [intOf]; omega
    · have hor : ¬ j < rn ∨ (j < rn ∧ ¬ j < 20) := by omega
      rcases hor with hn1 | ⟨hn1, hn2⟩
      all_goals
        by_cases h2 : j < 2
        · obtain ⟨ap, cp, rfl⟩ := HS.out.put.form
          rw [tL_len]
          clear hlt hx hxv hst hg
          first
            | (exfalso; omega)
            | (go_wp2_with fail
               go_ret
               exact ⟨rfl, HS.out.below⟩)
        · obtain ⟨k, rfl⟩ : ∃ k, j = k + 2 := ⟨j - 2, by omega⟩
          obtain ⟨gp, cp, rfl, hcp, hcm, p0, p1, p2, p3⟩ := HS.out.put.at_ (tL_get P rs (show k < k + 2 by omega))
          rw [tL_len] at *
          obtain ⟨c0, c1, c2, c3⟩ := box4_cells HS.out.one
          obtain ⟨m, hm⟩ : ∃ m, m = (k + 2) % 2 := ⟨_, rfl⟩
          have hand : bits .and .i64 x.ver 1 = (m : Int) := by rw [i64_and1m, hxv (by omega)]; omega
          have hsp := HG.out.spoilt hP1 hm
          have hm2 : m < 2 := by omega
          have HSP := Lib.hid hsp
          have HPL := Lib.hid (plant_any h g (8 * (m : Int)) none 0 0 [] wr B _ d (by unfold okInt; omega) HS.out.hand HS.out.box (InB.nil _ _) rfl (by omega) (fun y e => by cases e))
          have HBY := Lib.hid (HG.out.all.plant (8 * (m : Int)) isB.nil)
          clear hlt hx hxv hst hg p0 p1 p2 p3 hsp hm
          go_wp2_with fail
          clear hand c0 c1 c2 c3
          refine HPL.out.mono ?_
          rintro e w8 ⟨rfl, hbx, htu⟩
          have U8 := Lib.hid (HS.out.turn hBB hbx htu)
          clear HPL hbx htu HS
          go_wp2_with fail
          refine (disk_any h g w8 (row_cells U8.out.hand 0)).mono ?_
          rintro e wx ⟨rfl, hwx⟩
          have UX := Lib.hid (U8.out.then_ (w' := wx) (by rw [hwx]; exact below1 _ _))
          have hdd : wx.heap[w8.heap.size]? = some (.cells #[.pointer (some ⟨g, 0, none⟩)] 93) := by rw [hwx]; exact heap_alloc_new w8 _
          have HRD := Lib.hid (HD.out.read w8.heap.size g wx B _ _ UX.out.below hdd UX.out.box (HBY.out.byte UX.out.box.1))
          rw [HSP.out.1, HSP.out.2, errV_zero] at HRD
          obtain ⟨T, hT⟩ : ∃ T, T = tS P rs k := ⟨_, rfl⟩
          have hge := tL_get P rs (show k < k + 2 by omega)
          rw [← hT] at HRD hge
          have HGE := Lib.hid hge
          unfold Sup.arg Sup.cells at HRD
          clear hwx hdd U8 hT hge HBY HSP HG
          go_wp2_with fail
          refine HRD.out.mono ?_
          rintro e w10 ⟨rfl, b10⟩
          have b11 := below_then b10 (below1 w10 (.cells #[.int .i64 T.ver, .int .i64 T.root, .int .i64 T.ep, .int .i64 T.pag] 23))
          have U11 := Lib.hid (UX.out.then_ b11)
          obtain ⟨r0, r1, r2, r3⟩ := box4_cells (heap_alloc_new w10 (.cells #[.int .i64 T.ver, .int .i64 T.root, .int .i64 T.ep, .int .i64 T.pag] 23))
          obtain ⟨gp', cp', hv', hcp', hcm', p0, p1, p2, p3⟩ := U11.out.put.at_ HGE.out
          injection hv' with hv1 hv2 hv3
          injection hv1 with hv1
          injection hv1 with hv1
          subst hv1
          clear hv2 hv3 hcp' hcm' HRD b10 b11 UX
          have hgu := fun op x y a b W => sup_eqg op x y a b W
          have q1 := fun W => sup_eql T.ver T.root T.ep T.pag T.ver T.root T.ep T.pag W
          simp only [and_self, decide_true] at q1
          go_wp2_with fail
          go_region
          go_wp2_with fail
          go_ret
          exact ⟨rfl, U11.out.below.drew⟩
end Go.Proofs.YtonjapphhbhcpaaDoor
