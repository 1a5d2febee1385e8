/- The program's Write of a superblock. The program's bytes of a page, whatever stands there. The program's Read of a superblock. No statement is proved here. -/
import Derived.Test.YtonjapphhbhcpaaDoorJ12
import Derived.Test.YtonjapphhbhcpaaDoorUEnvD
import Derived.Test.YtonjapphhbhcpaaDoorURef6
namespace Go.Proofs.YtonjapphhbhcpaaDoor
open Go.RowKit
set_option maxRecDepth 100000

set_option maxHeartbeats 8000000 in
theorem pswr_any {W : World} (P : P12 W) (h g : Nat) (s : Sup) (w : World) (B : Base) (N : Nat) (d : Dk) (hW : Below W.heap.size W w) (hi : s.In) (hh : w.heap[h]? = some (.cells #[.pointer (some ⟨g, 0, none⟩)] 93)) (hb : BoxAt w B g d N) (hN : N + 8 ≤ 1099511627776) (hX : ∀ y, B.off = some y → y < w.heap.size) :
    Calls Tryd.prog 24 #[.pointer (some ⟨h, 0, none⟩), s.arg] w fun e w' => e = .returned (errV (d.swr s).1) ∧ BoxAt w' B g (d.swr s).2 (N + 8) ∧ Turns TB B.lo w w' := by
  have HM := Lib.hid (fun w => pmay_any s hi w)
  have HA := Lib.hid hb
  have HH := Lib.hid hh
  have hBw : B.lo ≤ w.heap.size := Nat.le_of_lt (Nat.lt_of_le_of_lt hb.lt.1 hb.lt.2)
  have HB := Lib.hid (below1 w (.cells #[.int .i64 s.ver, .int .i64 s.root, .int .i64 s.ep, .int .i64 s.pag] 23))
  have HX := Lib.hid (heap_alloc_new w (.cells #[.int .i64 s.ver, .int .i64 s.root, .int .i64 s.ep, .int .i64 s.pag] 23))
  have HPG := Lib.hid (fun U (hu : Below w.heap.size w U) => (pages_any h g U B N d (row_cells (row_then hh hu) 0) (hb.then_ hu)).mono fun e w' h => (show e = .returned (.int .i64 d.pages) ∧ w' = U from ⟨h.1, h.2.symm⟩))
  have HW := Lib.hid (fun (p : Nat) (hp : p < 2) (la : Option Addr) (c : Nat) (U : World) (hu : Below w.heap.size w U) (hin : InB U la s.body) (hc : 36 ≤ c) (hcm : c ≤ maxLen) (hnil : la = none → c = 0 ∧ s.body = []) =>
    pw_any P h g (p : Int) 1 la 36 c s.body U B N d (hW.trans (hu.mono hW.size)) (by unfold okInt; omega) (by unfold okInt; omega) (row_then hh hu) (hb.then_ hu) hin s.body_byte s.body_len hc hcm hnil hN (fun y e => Nat.lt_of_lt_of_le (hX y e) hu.size))
  clear hb hi hh P hW hX
  show Calls _ _ #[_, .agg #[.int .i64 s.ver, .int .i64 s.root, .int .i64 s.ep, .int .i64 s.pag]] _ _
  unfold Sup.arg Sup.cells at HM
  have k1 := box4_cells HX.out
  cases hs : s.ok with
  | false =>
    rw [hs] at HM
    have HE := Lib.hid (swr_no (d := d) (s := s) (fun k => by rw [hs] at k; exact absurd k.1 (by decide)))
    clear hs
    obtain ⟨c0, c1, c2, c3⟩ := k1
    go_enter Tryd.func24, Tryd.ntmps24
    go_wp2_with fail
    first
      | (go_region_with (first
          | (go_at_call 31; refine (HM.out _).mono ?_; rintro e w2 ⟨rfl, b2⟩; have H2 := Lib.hid (below_then HB.out.drew b2); clear b2)))
      | fail
    all_goals
      clear c0 c1 c2 c3
      go_wp2_with fail
      go_ret
      rw [HE.out]
      exact ⟨rfl, (HA.out.then_ H2.out).more (by omega), Turns.of_below hBw H2.out⟩
  | true =>
    rw [hs] at HM
    have HO := Lib.hid hs
    have HBd := Lib.hid (fun W => pbody_any s hs W)
    have hv := (Sup.ok_yes hs).1
    obtain ⟨p, hp2, hp⟩ := Sup.page hs
    have HPl := Lib.hid (fun W => pplace_any s (by omega) p hp W)
    have HP := Lib.hid hp
    have HK := Lib.hid (HW.out p hp2)
    unfold Sup.arg Sup.cells at HBd HPl
    clear hs hp hv HW
    obtain ⟨c0, c1, c2, c3⟩ := k1
    by_cases hpg : s.pag = d.pages
    · have hpb : (s.pag != d.pages) = false := by simp [hpg]
      have HSW : Hid (d.swr s = if (d.pwr (p : Int) 1 s.body).1 = 0 then ((d.pwr (p : Int) 1 s.body).2.syncE, (d.pwr (p : Int) 1 s.body).2.sync) else d.pwr (p : Int) 1 s.body) := Lib.hid (by unfold Dk.swr; rw [if_pos ⟨HO.out, hpg⟩, HP.out])
      clear hpg
      go_enter Tryd.func24, Tryd.ntmps24
      go_wp2_with fail
      go_region_held3 (fun w' => w'.cell? ⟨w.heap.size, 0, none⟩ = some (.int .i64 s.ver) ∧ w'.cell? ⟨w.heap.size, 1, none⟩ = some (.int .i64 s.root) ∧ w'.cell? ⟨w.heap.size, 2, none⟩ = some (.int .i64 s.ep) ∧ w'.cell? ⟨w.heap.size, 3, none⟩ = some (.int .i64 s.pag))
        (first
          | exact ⟨c0, c1, c2, c3⟩
          | exact k2
          | go_keep)
        (first
          | (go_at_call 48; refine (HPG.out _ H2.out).mono ?_; rintro e w3 ⟨rfl, rfl⟩)
          | (go_at_call 31; refine (HM.out _).mono ?_; rintro e w2 ⟨rfl, b2⟩; have H2 := Lib.hid (below_then HB.out.drew b2); have X2 := Lib.hid (row_then (row_then HX.out (Below.refl _ _).drew) b2); have k2 := box4_cells X2.out; clear b2))
      obtain ⟨d0, d1, d2, d3⟩ := k2
      clear c0 c1 c2 c3 hpb HPG HM
      go_wp2_with fail
      go_region_held3 (fun w' => w'.cell? ⟨w.heap.size, 0, none⟩ = some (.int .i64 s.ver) ∧ w'.cell? ⟨w.heap.size, 1, none⟩ = some (.int .i64 s.root) ∧ w'.cell? ⟨w.heap.size, 2, none⟩ = some (.int .i64 s.ep) ∧ w'.cell? ⟨w.heap.size, 3, none⟩ = some (.int .i64 s.pag))
        (first
          | exact ⟨d0, d1, d2, d3⟩
          | exact k4
          | exact k5
          | exact k6
          | go_keep)
        (first
          | (go_at_call 49; refine (HK.out _ _ _ H5.out.2.2.2 H5.out.1 H5.out.2.2.1.1 H5.out.2.2.1.2 H5.out.2.1).mono ?_; rintro e w6 ⟨rfl, r6, t6⟩; have H6 := Lib.hid (And.intro r6 ((Turns.of_below (T := TB) (B := B.lo) hBw H5.out.2.2.2).trans t6)); have k6 := box4_cells (t6.box X5.out super_TB); clear r6 t6)
          | (go_at_call 34; refine (HBd.out _).mono ?_; rintro e w5 ⟨v5, rfl, o5, b5⟩; obtain ⟨a5, q5, e5, i5, n5, l5, m5⟩ := o5.shape; rw [s.body_len] at e5 l5; subst e5; have H5 := Lib.hid (And.intro i5 (And.intro n5 (And.intro (And.intro l5 m5) (below_then H4.out b5)))); have X5 := Lib.hid (row_then X4.out b5); have k5 := box4_cells X5.out; clear o5 b5 i5 n5 l5 m5)
          | (go_at_call 33; refine (HPl.out _).mono ?_; rintro e w4 ⟨rfl, b4⟩; have H4 := Lib.hid (below_then H2.out.drew b4); have X4 := Lib.hid (row_then (row_then X2.out (Below.refl _ _).drew) b4); have k4 := box4_cells X4.out; clear b4))
      clear d0 d1 d2 d3 k4 k5 k6 HBd HPl HK
      have HH6 := Lib.hid (H6.out.2.block _ _ HH.out disk_TB)
      by_cases he : (d.pwr (p : Int) 1 s.body).1 = 0
      · have HSW2 := Lib.hid (HSW.out.trans (if_pos he))
        rw [he, errV_zero]
        have HSY := Lib.hid (dsync_any h g w6 B (N + 8) _ HH6.out H6.out.1 hN)
        generalize (d.pwr (p : Int) 1 s.body).2 = dd at *
        generalize hse : dd.syncE = se at *
        generalize hsd : dd.sync = sd at *
        clear he
        go_wp2_with fail
        refine HSY.out.mono ?_
        rintro e w7 ⟨rfl, r7, t7⟩
        have H7 := Lib.hid (And.intro r7 (H6.out.2.trans t7))
        clear r7 t7
        go_wp2_with fail
        go_ret
        rw [HSW2.out]
        exact ⟨by simp [hse], by simpa [hsd] using H7.out.1, H7.out.2⟩
      · have HSW2 := Lib.hid (HSW.out.trans (if_neg he))
        have HEM := Lib.hid (errV_mk he)
        rw [errV_mk he]
        generalize (d.pwr (p : Int) 1 s.body) = pp at *
        obtain ⟨pe, pd⟩ := pp
        dsimp only at *
        clear he
        go_wp2_with fail
        go_ret
        rw [HSW2.out]
        exact ⟨by rw [HEM.out]; rfl, H6.out.1, H6.out.2⟩
    · have hpb : (s.pag != d.pages) = true := by simp [hpg]
      have HSN := Lib.hid (swr_no (d := d) (s := s) (fun k => hpg k.2))
      clear hpg
      go_enter Tryd.func24, Tryd.ntmps24
      go_wp2_with fail
      go_region_held3 (fun w' => w'.cell? ⟨w.heap.size, 0, none⟩ = some (.int .i64 s.ver) ∧ w'.cell? ⟨w.heap.size, 1, none⟩ = some (.int .i64 s.root) ∧ w'.cell? ⟨w.heap.size, 2, none⟩ = some (.int .i64 s.ep) ∧ w'.cell? ⟨w.heap.size, 3, none⟩ = some (.int .i64 s.pag))
        (first
          | exact ⟨c0, c1, c2, c3⟩
          | exact k2
          | go_keep)
        (first
          | (go_at_call 48; refine (HPG.out _ H2.out).mono ?_; rintro e w3 ⟨rfl, rfl⟩)
          | (go_at_call 31; refine (HM.out _).mono ?_; rintro e w2 ⟨rfl, b2⟩; have H2 := Lib.hid (below_then HB.out.drew b2); have X2 := Lib.hid (row_then (row_then HX.out (Below.refl _ _).drew) b2); have k2 := box4_cells X2.out; clear b2))
      clear k2 c0 c1 c2 c3 hpb HPG HM
      go_wp2_with fail
      go_ret
      rw [HSN.out]
      exact ⟨rfl, (HA.out.then_ H2.out).more (by omega), Turns.of_below hBw H2.out⟩
end Go.Proofs.YtonjapphhbhcpaaDoor
namespace Go.Proofs.YtonjapphhbhcpaaDoor
open Go.RowKit
set_option maxRecDepth 100000

/-- What it tells. -/
def BytesTo (d : Dk) (m : Nat) (w : World) (e : Ending) (w' : World) : Prop := ∃ v, e = .returned (.tuple #[v, errV (if d.down then 5 else 0)]) ∧ (d.down = true → v = .slice none 0 0) ∧ (d.down = false → OwnB w' w.heap.size v (pgB d m)) ∧ Below w.heap.size w w'
theorem BytesTo.bad {d : Dk} {m : Nat} {w w' : World} (h : d.down = true) (hb : Below w.heap.size w w') : BytesTo d m w (.returned (.tuple #[.slice none 0 0, .iface 26 (.int .i64 5)])) w' :=
  ⟨_, by rw [h, if_pos rfl, errV_mk (by decide)], fun _ => rfl, fun h2 => by rw [h] at h2; (cases h2), hb⟩
theorem BytesTo.good {d : Dk} {m : Nat} {w w' : World} {v : Value} (h : d.down = false) (ho : OwnB w' w.heap.size v (pgB d m)) (hb : Below w.heap.size w w') : BytesTo d m w (.returned (.tuple #[v, .nilIface])) w' :=
  ⟨v, by rw [h]; rfl, fun h2 => by rw [h] at h2; (cases h2), fun _ => ho, hb⟩
set_option maxHeartbeats 8000000 in
theorem pbytes_any (h g m : Nat) (w : World) (B : Base) (N : Nat) (d : Dk) (hh : w.heap[h]? = some (.cells #[.pointer (some ⟨g, 0, none⟩)] 93)) (hb : BoxAt w B g d N) (hm2 : m < 2) (hpgs : m * 8 + 8 ≤ d.many) :
    Calls Tryd.prog 51 #[.pointer (some ⟨h, 0, none⟩), .int .i64 (m : Int)] w (BytesTo d m w) := by
  have HA := Lib.hid (And.intro hb hh)
  have hmany : d.many ≤ 9223372036854775807 := by obtain ⟨-, s, h⟩ := hb; exact h.many
  have hok := hb.1
  clear hb hh
  go_enter Tryd.func51, Tryd.ntmps51
  go_wp2_with fail
  go_loopw [6, 10] (fun v i wr => ∃ k : Nat, k ≤ 8 ∧ i = .int .i64 (k : Int) ∧ Hid (Grew w.heap.size w wr (.slice none 0 0) v (preB d m k) ∧ (1 ≤ k → d.down = false))) (fun _ i _ => 8 - (intOf i).toNat)
  case atStart => exact ⟨0, by omega, rfl, Lib.hid ⟨Grew.refl (OwnB.nil _ _), fun h => by omega⟩⟩
  case round =>
    obtain ⟨k, hk, rfl, HK⟩ := hrel
    have HBK := Lib.hid (HK.out.1.below (OwnB.nil _ _) (Below.refl _ _) (Nat.le_refl _) (Nat.le_refl _))
    by_cases hlt : k < 8
    · have HR := Lib.hid (dread_any h g ((m : Int) * 8 + (k : Int)) wr B N d (by unfold okInt; omega) (row_cells (row_then HA.out.2 HBK.out) 0) (HA.out.1.then_ HBK.out))
      have hre : d.readE ((m : Int) * 8 + (k : Int)) = if d.down then 5 else 0 := by unfold Dk.readE; rw [if_pos (show 0 ≤ ((m : Int) * 8 + (k : Int)) ∧ ((m : Int) * 8 + (k : Int)) < d.many by omega)]
      have hnat : ((m : Int) * 8 + (k : Int)).toNat = m * 8 + k := by omega
      unfold ReadAt at HR
      rw [hre, hnat] at HR
      clear hre hnat
      have hpl := preB_len hok m k
      cases hdn : d.down
      · rw [hdn, if_neg (by simp), errV_zero] at HR
        go_wp2_with fail
        refine HR.out.mono ?_
        rintro e w2 ⟨v, rfl, -, hv, hb2⟩
        obtain ⟨g2, c2, rfl, hg2, hg2'⟩ := (hv trivial).form
        rw [hok.look_len]
        have HV := Lib.hid (And.intro (hv trivial) hb2)
        clear hv hb2
        have hsz := HK.out.1.size
        go_wp2_with (at_builtin; refine apR rfl (.tmp 25) (.tmp 26) rfl w.heap.size _ (preB d m k) rfl (HK.out.1.own.then_ HV.out.2) (some ⟨g2, 0, none⟩) 512 c2 (d.look (m * 8 + k)) rfl (hok.look_len _) (OwnB.row HV.out.1.1) (fun e => by cases e) (by omega) (Nat.le_trans hsz HV.out.2.size) ?_; intro v5 w5 hg5; have G5 := Lib.hid (HK.out.1.trans (hg5.pre HV.out.2)); clear hg5)
        go_roundw
        case rel => exact ⟨k + 1, by omega, by go_num, Lib.hid ⟨G5.out, fun _ => by first | exact hdn | trivial⟩⟩
        case measure => simp [intOf]; omega
      · rw [hdn, if_pos rfl, errV_mk (by decide)] at HR
        go_wp2_with fail
        refine HR.out.mono ?_
        rintro e w2 ⟨v, rfl, hv, -, hb2⟩
        have B4 := Lib.hid (below_then HBK.out hb2)
        clear hv hb2
        have HX := Lib.hid (BytesTo.bad (m := m) hdn B4.out)
        clear hdn
        go_wp2_with fail
        go_ret2
        exact HX.out
    · have hk8 : k = 8 := by omega
      subst hk8
      have HX := Lib.hid (BytesTo.good (m := m) (HK.out.2 (by omega)) HK.out.1.own HBK.out)
      go_wp2_with fail
      go_ret2
      exact HX.out
end Go.Proofs.YtonjapphhbhcpaaDoor
namespace Go.Proofs.YtonjapphhbhcpaaDoor
open Go.RowKit
set_option maxRecDepth 100000

theorem bdN {n : Nat} {w w' : World} (h : Below n w w') (k : Nat) : Below n w (w'.drewN k) := ⟨h.os, h.tape, h.output, h.size, h.block⟩
def PSrTo (d : Dk) (w : World) (e : Ending) (w' : World) : Prop := e = .returned (.tuple #[d.srS.arg, errV d.srE]) ∧ Below w.heap.size w w'
theorem PSrTo.bad {d : Dk} {w w' : World} {n : Int} (h : d.srE = n) (hn : n ≠ 0) (hb : Below w.heap.size w w') : PSrTo d w (.returned (.tuple #[.agg #[.int .i64 0, .int .i64 0, .int .i64 0, .int .i64 0], .iface 26 (.int .i64 n)])) w' :=
  ⟨by rw [srS_bad (by rw [h]; exact hn), h, errV_mk hn]; rfl, hb⟩
theorem ch_140 {a b : List Int} (h : chE a b ≠ 0) : chE a b = 140 := by
  unfold chE at *
  split at h
  · rename_i h2; rw [if_pos h2]
  · exact absurd rfl h
set_option maxHeartbeats 8000000 in
theorem psrd_any (h g : Nat) (w : World) (B : Base) (N : Nat) (d : Dk) (ht : Tab16 w) (hh : w.heap[h]? = some (.cells #[.pointer (some ⟨g, 0, none⟩)] 93)) (hb : BoxAt w B g d N) (hby : d.byte) :
    Calls Tryd.prog 28 #[.pointer (some ⟨h, 0, none⟩)] w (PSrTo d w) := by
  have HA := Lib.hid (And.intro hb (And.intro hby (And.intro hh ht)))
  have hmany : d.many ≤ 9223372036854775807 := by obtain ⟨-, s, h⟩ := hb; exact h.many
  have hok := hb.1
  have HB := Lib.hid (below1 w (.cells #[.int .i64 0, .int .i64 0, .int .i64 0, .int .i64 0] 23))
  have HX := Lib.hid (heap_alloc_new w (.cells #[.int .i64 0, .int .i64 0, .int .i64 0, .int .i64 0] 23))
  have HPG := Lib.hid (fun U (hu : Below w.heap.size w U) => (pages_any h g U B N d (row_cells (row_then hh hu) 0) (hb.then_ hu)).mono fun e w' h => (show e = .returned (.int .i64 d.pages) ∧ w' = U from ⟨h.1, h.2.symm⟩))
  have hpg : d.pages = (d.many : Int) / 8 := rfl
  have c0 := row_cells HX.out
  have f0 := box_frozen HX.out
  clear hb hby hh ht
  go_enter Tryd.func28, Tryd.ntmps28
  go_wp2_with fail
  refine (HPG.out _ HB.out).mono ?_
  rintro e w1 ⟨rfl, rfl⟩
  by_cases hlow : d.pages < 16
  · have HE := Lib.hid (srE_low hlow)
    go_wp2_with fail
    clear f0
    simp [bodyPost, results, Tryd.results28, go_sem, c0]
    exact PSrTo.bad HE.out (by decide) HB.out
  · clear c0 f0
    have HLOW := Lib.hid hlow
    have hm16 : (128 : Int) ≤ d.many := by omega
    have hm16' : 128 ≤ d.many := by omega
    have hpg2 : 16 ≤ d.pages := by omega
    clear hlow
    have HB2 := Lib.hid (below2 w (.cells #[.int .i64 0, .int .i64 0, .int .i64 0, .int .i64 0] 23) (.cells #[.slice none 0 0, .slice none 0 0] 96))
    have HR2 := Lib.hid (row_then HX.out (below1 _ (.cells #[.slice none 0 0, .slice none 0 0] 96)))
    have HP2 := Lib.hid (heap_alloc_at (w.alloc (.cells #[.int .i64 0, .int .i64 0, .int .i64 0, .int .i64 0] 23)) (.cells #[.slice none 0 0, .slice none 0 0] 96) (w.heap.size + 1) (by simp))
    go_wp2_with fail
    go_loopw [15] (fun i wr => ∃ (k : Nat) (x0 x1 : Value), k ≤ 2 ∧ i = .int .i64 (k : Int) ∧ Hid (Below w.heap.size w wr ∧ wr.heap[w.heap.size]? = some (.cells #[.int .i64 0, .int .i64 0, .int .i64 0, .int .i64 0] 23) ∧ wr.heap[w.heap.size + 1]? = some (.cells #[x0, x1] 96) ∧ (0 < k → OwnB wr (w.heap.size + 2) x0 (pgB d 0)) ∧ (1 < k → OwnB wr (w.heap.size + 2) x1 (pgB d 1)) ∧ (0 < k → d.down = false))) (fun i _ => 2 - (intOf i).toNat)
    case atStart => exact ⟨0, _, _, by omega, rfl, Lib.hid ⟨HB2.out, HR2.out, HP2.out, fun h => by omega, fun h => by omega, fun h => by omega⟩⟩
    case round =>
      obtain ⟨k, x0, x1, hk, rfl, HK⟩ := hrel
      by_cases hlt : k < 2
      · have HBY := Lib.hid (pbytes_any h g k wr B N d (row_then HA.out.2.2.1 HK.out.1) (HA.out.1.then_ HK.out.1) hlt (by omega))
        unfold BytesTo at HBY
        cases hdn : d.down
        · rw [hdn, if_neg (by decide), errV_zero] at HBY
          go_wp2_with fail
          refine HBY.out.mono ?_
          rintro e w2 ⟨v, rfl, -, hv, hb2⟩
          obtain ⟨g2, c2, rfl, hc2⟩ := (hv trivial).form (by rw [pgB_len hok]; omega)
          rw [pgB_len hok]
          have HV := Lib.hid (And.intro (hv trivial) hb2)
          rw [pgB_len hok] at HV
          have P2 := Lib.hid (row_then HK.out.2.2.1 hb2)
          have hwr : w.heap.size + 2 ≤ wr.heap.size := lt_of_block HK.out.2.2.1
          clear hv hb2 hc2
          have fP := box_frozen P2.out
          obtain ⟨old, hold⟩ : ∃ u, w2.cell? ⟨w.heap.size + 1, k, none⟩ = some u := by
            rw [row_cells P2.out]
            exact ⟨_, Array.getElem?_eq_getElem (by simpa using hlt)⟩
          go_wp2_with fail
          go_roundw
          case rel =>
            have hst := set_heap (i := k) P2.out (.slice (some ⟨g2, 0, none⟩) 4096 c2)
            have hkeep : ∀ (y : Value) (l : List Int), OwnB w2 (w.heap.size + 2) y l → OwnB (w2.setCell ⟨w.heap.size + 1, k, none⟩ (.slice (some ⟨g2, 0, none⟩) 4096 c2)) (w.heap.size + 2) y l := fun y l hy => hy.keep fun g' hg' => set_off w2 _ (by have := (hy.block g' hg').1; omega)
            have hb3 : Below w.heap.size w (w2.setCell ⟨w.heap.size + 1, k, none⟩ (.slice (some ⟨g2, 0, none⟩) 4096 c2)) := (below_then HK.out.1 HV.out.2).setCell (p := ⟨w.heap.size + 1, k, none⟩) (by show w.heap.size ≤ w.heap.size + 1; omega) _
            have hR3 := (set_off w2 (i := k) (.slice (some ⟨g2, 0, none⟩) 4096 c2) (show w.heap.size ≠ w.heap.size + 1 by omega)).trans (row_then HK.out.2.1 HV.out.2)
            have hv3 := hkeep _ _ (HV.out.1.base hwr)
            have hk01 : k = 0 ∨ k = 1 := by omega
            rcases hk01 with hk0 | hk1
            · rw [hk0] at hst hb3 hR3 hv3 ⊢
              exact ⟨1, _, _, by omega, by rfl, Lib.hid ⟨hb3, hR3, hst, fun _ => hv3, fun h => by omega, fun _ => by first | exact hdn | trivial⟩⟩
            · have h0 := hkeep _ _ ((HK.out.2.2.2.1 (by omega)).then_ HV.out.2)
              rw [hk1] at hst hb3 hR3 hv3 h0 ⊢
              exact ⟨2, _, _, by omega, by rfl, Lib.hid ⟨hb3, hR3, hst, fun _ => h0, fun _ => hv3, fun _ => by first | exact hdn | trivial⟩⟩
          case measure => simp [intOf]; omega
        · rw [hdn, if_pos rfl, errV_mk (by decide)] at HBY
          have HE := Lib.hid (srE_down (by have h := HLOW.out; omega) hdn)
          go_wp2_with fail
          refine HBY.out.mono ?_
          rintro e w2 ⟨v, rfl, hv, -, hb2⟩
          have B4 := Lib.hid (below_then HK.out.1 hb2)
          have X4 := Lib.hid (row_then HK.out.2.1 hb2)
          have fr := box_frozen X4.out
          have r0 := row_cells X4.out 0
          have r1 := row_cells X4.out 1
          have r2 := row_cells X4.out 2
          have r3 := row_cells X4.out 3
          clear hv hb2 hdn
          go_wp2_with fail
          generalize hV : World.setCell _ _ _ = V
          obtain ⟨t1, t2⟩ := put4V X4.out hV
          have q := row_cells t2
          have HF := Lib.hid ((Only.of_below (S := []) B4.out).then_ t1 (fun z hz => .inr (by rw [List.mem_singleton.1 hz]; exact Nat.le_refl _))).below
          clear hV t1 t2 fr r0 r1 r2 r3
          simp [bodyPost, results, Tryd.results28, go_sem, q]
          exact PSrTo.bad HE.out (by decide) HF.out
      · have hk2 : k = 2 := by omega
        subst hk2
        have hdn := HK.out.2.2.2.2.2 (by omega)
        have HEU := Lib.hid (srE_up (by have h := HLOW.out; omega) hdn)
        have h0 := HK.out.2.2.2.1 (by omega)
        have h1 := HK.out.2.2.2.2.1 (by omega)
        have hl0 := pgB_len hok 0
        have hl1 := pgB_len hok 1
        obtain ⟨a0, c0, rfl, i0, n0, l0, m0⟩ := h0.shape
        obtain ⟨a1, c1, rfl, i1, n1, l1, m1⟩ := h1.shape
        rw [hl0] at l0
        rw [hl1] at l1
        have HC := Lib.hid (pchoose_any a0 4096 c0 (pgB d 0) a1 4096 c1 (pgB d 1) wr (tab16_on HA.out.2.2.2 HK.out.1) i0 (preB_byte HA.out.2.1 0 8) hl0 (by omega) (by omega) i1 (preB_byte HA.out.2.1 1 8) hl1 (by omega) (by omega))
        have H140 := Lib.hid (fun h => ch_140 (a := pgB d 0) (b := pgB d 1) h)
        have P3 := Lib.hid HK.out.2.2.1
        rw [hl0, hl1] at P3
        have p0 := row_cells P3.out 0
        have p1 := row_cells P3.out 1
        unfold SChTo at HC
        clear h0 h1 i0 n0 l0 m0 i1 n1 l1 m1 hl0 hl1 hdn
        generalize chS (pgB d 0) (pgB d 1) = s at *
        generalize chE (pgB d 0) (pgB d 1) = ce at *
        unfold Sup.arg Sup.cells at HC
        go_wp2_with fail
        refine HC.out.mono ?_
        rintro e w4 ⟨rfl, b4⟩
        have b4' := below_then b4 (below1 w4 (.cells #[.int .i64 s.ver, .int .i64 s.root, .int .i64 s.ep, .int .i64 s.pag] 23))
        have B5 := Lib.hid (below_then HK.out.1 b4')
        have X5 := Lib.hid (row_then HK.out.2.1 b4')
        have S5 := Lib.hid (heap_alloc_new w4 (.cells #[.int .i64 s.ver, .int .i64 s.root, .int .i64 s.ep, .int .i64 s.pag] 23))
        clear b4 b4' p0 p1
        generalize hV : w4.alloc (.cells #[.int .i64 s.ver, .int .i64 s.root, .int .i64 s.ep, .int .i64 s.pag] 23) = V at *
        have fr := box_frozen X5.out
        have r0 := row_cells X5.out 0
        have r1 := row_cells X5.out 1
        have r2 := row_cells X5.out 2
        have r3 := row_cells X5.out 3
        obtain ⟨s0, s1, s2, s3⟩ := box4_cells S5.out
        by_cases hce : ce = 0
        rotate_left
        · have hc140 := H140.out hce
          subst hc140
          have HE : Hid (d.srE = 140) := Lib.hid (by rw [HEU.out.1, if_neg (fun h => hce h.1)])
          clear hce
          go_wp2_with fail
          generalize hU : World.setCell _ _ _ = U
          obtain ⟨t1, t2⟩ := put4V X5.out hU
          have q := row_cells t2
          have HF := Lib.hid ((Only.of_below (S := []) B5.out).then_ t1 (fun z hz => .inr (by rw [List.mem_singleton.1 hz]; exact Nat.le_refl _))).below
          clear hU t1 t2 fr r0 r1 r2 r3 s0 s1 s2 s3
          simp [bodyPost, results, Tryd.results28, go_sem, q]
          exact PSrTo.bad HE.out (by decide) HF.out
        subst hce
        have HPG2 := Lib.hid (fun U (hb : Below V.heap.size V U) => HPG.out U (below_then B5.out hb))
        clear HPG HC H140
        by_cases hpp : s.pag = d.pages
        · have HE : Hid (d.srE = 0 ∧ d.srS = s) := Lib.hid (by
            have h1 : d.srE = 0 := by rw [HEU.out.1, if_pos ⟨rfl, hpp⟩]
            exact ⟨h1, by rw [HEU.out.2, if_pos h1]⟩)
          have hpb : (s.pag != d.pages) = false := by simp [hpp]
          clear hpp hpg hpg2 fr r0 r1 r2 r3
          go_wp2_with fail
          go_quiet ((go_at_call 48; refine Calls.quiet_of_same (HPG2.out _ (bdN (Below.refl _ _) _))))
          have hb5 := bdN (Below.refl V.heap.size V) nq
          have B6 := Lib.hid (below_then B5.out hb5)
          have X6 := Lib.hid (row_then X5.out hb5)
          have S6 := Lib.hid (row_then S5.out hb5)
          clear s0 s1 s2 s3 hb5
          generalize V.drewN nq = U at *
          have fr := box_frozen X6.out
          have r0 := row_cells X6.out 0
          have r1 := row_cells X6.out 1
          have r2 := row_cells X6.out 2
          have r3 := row_cells X6.out 3
          obtain ⟨s0, s1, s2, s3⟩ := box4_cells S6.out
          go_wp2_with fail
          generalize hU : World.setCell _ _ _ = Y
          obtain ⟨t1, t2⟩ := put4V X6.out hU
          have q := row_cells t2
          have HF := Lib.hid ((Only.of_below (S := []) B6.out).then_ t1 (fun z hz => .inr (by rw [List.mem_singleton.1 hz]; exact Nat.le_refl _))).below
          clear hU t1 t2 fr r0 r1 r2 r3 s0 s1 s2 s3
          simp [bodyPost, results, Tryd.results28, go_sem, q]
          exact ⟨by rw [HE.out.1, HE.out.2]; rfl, HF.out⟩
        · have HE : Hid (d.srE = 140) := Lib.hid (by rw [HEU.out.1, if_neg (fun h => hpp h.2)])
          have hpb : (s.pag != d.pages) = true := by simp [hpp]
          clear hpp hpg hpg2 fr r0 r1 r2 r3
          go_wp2_with fail
          go_quiet ((go_at_call 48; refine Calls.quiet_of_same (HPG2.out _ (bdN (Below.refl _ _) _))))
          have hb5 := bdN (Below.refl V.heap.size V) nq
          have B6 := Lib.hid (below_then B5.out hb5)
          have X6 := Lib.hid (row_then X5.out hb5)
          clear s0 s1 s2 s3 hb5
          generalize V.drewN nq = U at *
          have fr := box_frozen X6.out
          have r0 := row_cells X6.out 0
          have r1 := row_cells X6.out 1
          have r2 := row_cells X6.out 2
          have r3 := row_cells X6.out 3
          go_wp2_with fail
          generalize hU : World.setCell _ _ _ = Y
          obtain ⟨t1, t2⟩ := put4V X6.out hU
          have q := row_cells t2
          have HF := Lib.hid ((Only.of_below (S := []) B6.out).then_ t1 (fun z hz => .inr (by rw [List.mem_singleton.1 hz]; exact Nat.le_refl _))).below
          clear hU t1 t2 fr r0 r1 r2 r3
          simp [bodyPost, results, Tryd.results28, go_sem, q]
          exact PSrTo.bad HE.out (by decide) HF.out
end Go.Proofs.YtonjapphhbhcpaaDoor
