/- The law ValueSides over its contracts: no statement is proved here. -/
import Derived.Test.YtlmlehjfockkpaaDoorStock
import Derived.Test.YtlmlehjfockkpaaDoorSidesP
import Derived.Test.YtlmlehjfockkpaaDoorLawSorts
namespace Go.Proofs.YtlmlehjfockkpaaDoor
open Go.RowKit
set_option maxRecDepth 100000

set_option maxHeartbeats 8000000 in
theorem sides_law (v x : T) (s o : ByteArray) (la : Option Addr) (lc : Nat) (l : List T) (w : World) (ov : v.ok) (ox : x.ok) (os : okLen s.size) (oo : okLen o.size) (rv : v.val.room 42) (hv : v.In w) (hx : x.In w) (hl : InL w la l) (hb : okLen (l.length * 80)) (hok : ∀ x ∈ l, x.ok) (hT : Tabs w) :
    Calls Tryd.prog 8 #[v.arg, .string s, .string o, x.arg, .slice la l.length lc] w fun e w' => e = .returned (.bool true) ∧ Below w.heap.size w w' := by
  have HV := Lib.hid hv
  have HX := Lib.hid hx
  have HT := Lib.hid hT
  have OV := Lib.hid ov
  have OX := Lib.hid ox
  have OS := Lib.hid os
  have OO := Lib.hid oo
  have RV := Lib.hid rv
  have HL := Lib.hid hl
  have HK := Lib.hid hok
  have hb80 : l.length * 80 ≤ 140737488351232 := hb
  have hl63 : l.length ≤ 9223372036854775807 := by omega
  clear ov ox os oo rv hv hx hT hl hok hb
  obtain ⟨kv, nv, tv, av, cv, lv, bv, ev, dv⟩ := v
  obtain ⟨kx, nx, tx, ax, cx, lx, bx, ex, dx⟩ := x
  show Calls _ _ #[.agg #[.int .i64 kv, .int .i64 nv, .string tv, .slice av lv.length cv, .slice bv dv.length ev], .string s, .string o, .agg #[.int .i64 kx, .int .i64 nx, .string tx, .slice ax lx.length cx, .slice bx dx.length ex], .slice la l.length lc] _ _
  have ST := Lib.hid (((Stock.start w).box_add [.int .i64 kv, .int .i64 nv, .string tv, .slice av lv.length cv, .slice bv dv.length ev]).box_add [.int .i64 kx, .int .i64 nx, .string tx, .slice ax lx.length cx, .slice bx dx.length ex])
  rw [World.size_alloc] at ST
  go_enter Tryd.func8, Tryd.ntmps8
  go_wp2_with fail
  refine (awake_any _ (HT.out.then_ ST.out.below)).mono ?_
  rintro e w1 ⟨rfl, b1⟩
  have z1 : w.heap.size + 2 ≤ w1.heap.size := by have := b1.size; simpa using this
  replace ST := Lib.hid (ST.out.then_ b1)
  have fv : ∀ o, w1.cell? ⟨w.heap.size, o, none⟩ = (#[.int .i64 kv, .int .i64 nv, .string tv, .slice av lv.length cv, .slice bv dv.length ev] : Array Value)[o]? := ST.out.cells m1
  have fx : ∀ o, w1.cell? ⟨w.heap.size + 1, o, none⟩ = (#[.int .i64 kx, .int .i64 nx, .string tx, .slice ax lx.length cx, .slice bx dx.length ex] : Array Value)[o]? := ST.out.cells m0
  clear b1
  go_wp2_with fail
  refine (with_any (.mk kv nv tv av cv lv bv ev dv) (.mk kx nx tx ax cx lx bx ex dx) s _ OV.out OX.out OS.out (V.room.less _ (by omega) RV.out) (HV.out.then_ ST.out.below) (HX.out.then_ ST.out.below)).mono ?_
  rintro e w2 ⟨h, rfl, vh, oh, b2⟩
  have z2 := b2.size
  replace ST := Lib.hid (ST.out.own_add b2 oh)
  obtain ⟨kh, nh, th, ah, ch, lh, bh, eh, dh⟩ := h
  dsimp only [T.arg, T.cells]
  have VH := Lib.hid vh
  replace ST := Lib.hid (ST.out.box_add [.int .i64 kh, .int .i64 nh, .string th, .slice ah lh.length ch, .slice bh dh.length eh])
  clear b2 oh vh fv fx
  have fv : ∀ o, (w2.alloc (.cells [.int .i64 kh, .int .i64 nh, .string th, .slice ah lh.length ch, .slice bh dh.length eh].toArray 25)).cell? ⟨w.heap.size, o, none⟩ = (#[.int .i64 kv, .int .i64 nv, .string tv, .slice av lv.length cv, .slice bv dv.length ev] : Array Value)[o]? := ST.out.cells m2
  go_wp2_with fail
  refine (without_any (.mk kv nv tv av cv lv bv ev dv) s _ OV.out (HV.out.then_ ST.out.below)).mono ?_
  rintro e w3 ⟨j, rfl, vj, oj, b3⟩
  have z3 := b3.size
  simp only [World.size_alloc] at z3
  replace ST := Lib.hid (ST.out.own_add b3 oj)
  rw [World.size_alloc] at ST
  obtain ⟨kj, nj, tj, aj, cj, lj, bj, ej, dj⟩ := j
  dsimp only [T.arg, T.cells]
  have VJ := Lib.hid vj
  replace ST := Lib.hid (ST.out.box_add [.int .i64 kj, .int .i64 nj, .string tj, .slice aj lj.length cj, .slice bj dj.length ej])
  clear b3 oj vj fv
  have fv : ∀ o, (w3.alloc (.cells [.int .i64 kj, .int .i64 nj, .string tj, .slice aj lj.length cj, .slice bj dj.length ej].toArray 25)).cell? ⟨w.heap.size, o, none⟩ = (#[.int .i64 kv, .int .i64 nv, .string tv, .slice av lv.length cv, .slice bv dv.length ev] : Array Value)[o]? := ST.out.cells m3
  have fh : ∀ o, (w3.alloc (.cells [.int .i64 kj, .int .i64 nj, .string tj, .slice aj lj.length cj, .slice bj dj.length ej].toArray 25)).cell? ⟨w2.heap.size, o, none⟩ = (#[.int .i64 kh, .int .i64 nh, .string th, .slice ah lh.length ch, .slice bh dh.length eh] : Array Value)[o]? := ST.out.cells m1
  by_cases h200 : 200 < l.length
  · go_wp2_with fail
    go_ret
    exact ⟨rfl, ST.out.below⟩
  by_cases k5 : kv = 5
  · subst k5
    have HE := Lib.hid (show ∃ n t l d, (T.mk 5 nv tv av cv lv bv ev dv).val = .mk 5 n t l d from ⟨_, _, _, _, T.val_mk ..⟩)
    go_wp2_with fail
    refine (get_any (.mk kh nh th ah ch lh bh eh dh) (ST.out.own _ m1).1.ok s _ (ST.out.own _ m1).1.in_).mono ?_
    intro e w4 hg4
    obtain ⟨g, rfl, vg, og, b4⟩ := gets_one hg4
    have G1 : getV (T.mk kh nh th ah ch lh bh eh dh).val s = some (T.mk kx nx tx ax cx lx bx ex dx).val := by rw [VH.out]; exact get_with HE.out
    rw [G1] at vg ⊢
    simp only [Option.isSome_some, Option.getD_some] at vg ⊢
    have z4 := b4.size
    simp only [World.size_alloc] at z4
    replace ST := Lib.hid (ST.out.own_add b4 og)
    rw [World.size_alloc] at ST
    obtain ⟨kg, ng, tg, ag, cg, lg, bg, eg, dg⟩ := g
    dsimp only [T.arg, T.cells]
    have VG := Lib.hid vg
    replace ST := Lib.hid (ST.out.box_add [.int .i64 kg, .int .i64 ng, .string tg, .slice ag lg.length cg, .slice bg dg.length eg])
    clear b4 og vg hg4 G1 fv fh
    have fx : ∀ o, (w4.alloc (.cells [.int .i64 kg, .int .i64 ng, .string tg, .slice ag lg.length cg, .slice bg dg.length eg].toArray 25)).cell? ⟨w.heap.size + 1, o, none⟩ = (#[.int .i64 kx, .int .i64 nx, .string tx, .slice ax lx.length cx, .slice bx dx.length ex] : Array Value)[o]? := ST.out.cells m3
    go_wp2_with fail
    refine (same_any (.mk kg ng tg ag cg lg bg eg dg) (.mk kx nx tx ax cx lx bx ex dx) _ (ST.out.own _ m0).1.ok OX.out (ST.out.own _ m0).1.in_ (HX.out.then_ ST.out.below)).mono ?_
    rintro e w5 ⟨rfl, b5⟩
    rw [same_self VG.out]
    have z5 := b5.size
    simp only [World.size_alloc] at z5
    replace ST := Lib.hid (ST.out.then_ b5)
    clear b5 fx
    have fj : ∀ o, w5.cell? ⟨w3.heap.size, o, none⟩ = (#[.int .i64 kj, .int .i64 nj, .string tj, .slice aj lj.length cj, .slice bj dj.length ej] : Array Value)[o]? := ST.out.cells m1
    go_wp2_with fail
    refine (get_any (.mk kj nj tj aj cj lj bj ej dj) (ST.out.own _ m1).1.ok s _ (ST.out.own _ m1).1.in_).mono ?_
    intro e w6 hg6
    obtain ⟨q, rfl, vq, oq, b6⟩ := gets_one hg6
    have G2 : getV (T.mk kj nj tj aj cj lj bj ej dj).val s = none := by rw [VJ.out]; exact get_without HE.out
    rw [G2]
    simp only [Option.isSome_none]
    have z6 := b6.size
    replace ST := Lib.hid (ST.out.own_add b6 oq)
    obtain ⟨kq, nq, tq, aq, cq, lq, bq, eq, dq⟩ := q
    dsimp only [T.arg, T.cells]
    replace ST := Lib.hid (ST.out.box_add [.int .i64 kq, .int .i64 nq, .string tq, .slice aq lq.length cq, .slice bq dq.length eq])
    clear b6 oq vq hg6 G2 fj
    have fv : ∀ o, (w6.alloc (.cells [.int .i64 kq, .int .i64 nq, .string tq, .slice aq lq.length cq, .slice bq dq.length eq].toArray 25)).cell? ⟨w.heap.size, o, none⟩ = (#[.int .i64 5, .int .i64 nv, .string tv, .slice av lv.length cv, .slice bv dv.length ev] : Array Value)[o]? := ST.out.cells m5
    have fh : ∀ o, (w6.alloc (.cells [.int .i64 kq, .int .i64 nq, .string tq, .slice aq lq.length cq, .slice bq dq.length eq].toArray 25)).cell? ⟨w2.heap.size, o, none⟩ = (#[.int .i64 kh, .int .i64 nh, .string th, .slice ah lh.length ch, .slice bh dh.length eh] : Array Value)[o]? := ST.out.cells m3
    by_cases ho : o.toList = s.toList
    · have hob : (!(o.toList == s.toList)) = false := by simp [ho]
      have hob2 : (o.toList == s.toList) = true := by simp [ho]
      clear ho fv fh
      go_wp2_with fail
      have HBX := Lib.hid (ST.out.below)
      refine (sort_any la lc l _ (HL.out.then_ HBX.out) hb80 HK.out).mono ?_
      intro e wS hsS
      obtain ⟨au, cu, ts, rfl, vs, os, bS⟩ := sorts_own hsS
      have HBS := Lib.hid (below_then HBX.out bS)
      have hlen : ts.length = l.length := by have h1 := congrArg List.length vs; rw [sortG_len] at h1; simpa using h1
      have hl1 : ts.length ≤ l.length := Nat.le_of_eq hlen
      have hl2 : l.length ≤ ts.length := Nat.le_of_eq hlen.symm
      have hne : ((ts.length : Int) != (l.length : Int)) = false := by simp [hlen]
      have HIN := Lib.hid os.in_.parts.1
      have HOKS := Lib.hid (asV_ok os)
      have HPERM := Lib.hid (show (ts.map T.val).Perm (l.map T.val) by rw [vs]; exact sortG_perm _ _ _ (Nat.le_refl _))
      have HORD := Lib.hid (show Ord cmpV (ts.map T.val) by rw [vs]; exact sortG_ord pre_cmpV _ _ (Nat.le_refl _))
      clear hlen vs os bS hsS
      go_wp2_with fail
      go_loopw [28, 29, 30, 31, 32, 33] (fun s28 _ _ _ _ _ wr => ∃ (i : Nat), i ≤ ts.length ∧ s28 = .int .i64 i ∧ Below wS.heap.size wS wr) (fun s28 _ _ _ _ _ _ => ts.length - (intOf s28).toNat)
      case atStart => exact ⟨0, by omega, rfl, Below.refl _ _⟩
      case round =>
        obtain ⟨i, hi, rfl, hbi⟩ := hrel
        by_cases hil : i < ts.length
        · obtain ⟨bi, oi, ki, ni, si, lai, lci, li, dai, dci, di, rfl, hz, hiz, -, -, -, -, -⟩ := HIN.out.five hil
          have HZ := Lib.hid (fun (wx : World) (h : Below wS.heap.size wS wx) => (show wx.cell? ⟨bi, oi + i * 5, none⟩ = some (.int .i64 ki) ∧ wx.cell? ⟨bi, oi + i * 5 + 1, none⟩ = some (.int .i64 ni) ∧ wx.cell? ⟨bi, oi + i * 5 + 2, none⟩ = some (.string si) ∧ wx.cell? ⟨bi, oi + i * 5 + 3, none⟩ = some (.slice lai li.length lci) ∧ wx.cell? ⟨bi, oi + i * 5 + 4, none⟩ = some (.slice dai di.length dci) from by
            obtain ⟨b7, o7, k7, n7, s7, la7, lc7, l7, da7, dc7, d7, h7, hz7, -, q0, q1, q2, q3, q4⟩ := (HIN.out.then_ h).five hil
            simp only [Option.some.injEq, Addr.mk.injEq, and_true] at h7
            obtain ⟨rfl, rfl⟩ := h7
            rw [hz] at hz7
            cases hz7
            exact ⟨q0, q1, q2, q3, q4⟩))
          have HIZ := Lib.hid hiz
          have HOKI := Lib.hid (HOKS.out _ (List.mem_of_getElem? hz))
          have HZI := Lib.hid hz
          clear hz hiz
          have HQ0 := Lib.hid hbi
          clear hbi
          obtain ⟨wo, rfl⟩ : ∃ wo : World, wo = wr := ⟨_, rfl⟩
          by_cases hi0 : i = 0
          · have hig : decide ((0 : Int) < (i : Int)) = false := by simp; omega
            have hig2 : decide (0 < i) = false := by simp; omega
            have HI0 := Lib.hid hi0
            clear hi0
            have HQ := HQ0
            go_wp2_with fail
            go_loopw [30, 31, 32, 33] (fun s30 s31 _ _ wr => ∃ (k : Nat) (d : Int), k ≤ l.length ∧ s31 = .int .i64 k ∧ s30 = .int .i64 d ∧ CntRel (T.mk ki ni si lai lci li dai dci di).val (l.map T.val) (ts.map T.val) k d ∧ Below wS.heap.size wS wr) (fun _ s31 _ _ _ => l.length - (intOf s31).toNat)
            case atStart => exact ⟨0, 0, by omega, rfl, rfl, cnt_zero _ _ _, HQ.out⟩
            case round =>
              obtain ⟨k, d, hk, rfl, rfl, hcr, hbk⟩ := hrel
              have hcb := cnt_bounds hcr
              have HC := Lib.hid hcr
              have HBK := Lib.hid hbk
              clear hcr hbk
              by_cases hkl : k < l.length
              · obtain ⟨b1, o1, k1, n1, s1, la1, lc1, l1, da1, dc1, d1, rfl, hx, hix, x0, x1, x2, x3, x4⟩ := (HL.out.then_ (below_then HBS.out HBK.out)).five hkl
                obtain ⟨b2, o2, k2, n2, s2, la2, lc2, l2, da2, dc2, d2, hau, hy, hiy, y0, y1, y2, y3, y4⟩ := (HIN.out.then_ HBK.out).five (i := k) (by omega)
                simp only [Option.some.injEq, Addr.mk.injEq, and_true] at hau
                obtain ⟨rfl, rfl⟩ := hau
                obtain ⟨z0, z1, z2, z3, z4⟩ := HZ.out wr HBK.out
                have hiz := HIZ.out.then_ HBK.out
                have K1 := Lib.hid (fun w => same_any (.mk k1 n1 s1 la1 lc1 l1 da1 dc1 d1) (.mk ki ni si lai lci li dai dci di) w (HK.out _ (List.mem_of_getElem? hx)) HOKI.out)
                have K2 := Lib.hid (fun w => same_any (.mk k2 n2 s2 la2 lc2 l2 da2 dc2 d2) (.mk ki ni si lai lci li dai dci di) w (HOKS.out _ (List.mem_of_getElem? hy)) HOKI.out)
                have HS := Lib.hid (cnt_step HC.out (x := (T.mk k1 n1 s1 la1 lc1 l1 da1 dc1 d1).val) (y := (T.mk k2 n2 s2 la2 lc2 l2 da2 dc2 d2).val) (by rw [List.getElem?_map, hx]; rfl) (by rw [List.getElem?_map, hy]; rfl))
                generalize sameV (T.mk k1 n1 s1 la1 lc1 l1 da1 dc1 d1).val (T.mk ki ni si lai lci li dai dci di).val = bw at K1 HS
                generalize sameV (T.mk k2 n2 s2 la2 lc2 l2 da2 dc2 d2).val (T.mk ki ni si lai lci li dai dci di).val = bn at K2 HS
                clear hx hy
                have hks : k < ts.length := by omega
                have hks2 : (k : Int) < (ts.length : Int) := by omega
                have hks3 : (k : Int) < (l.length : Int) := by omega
                have hks4 : (0 : Int) ≤ (k : Int) := by omega
                go_wp2_with fail
                go_still_tail 8, (by kernel_rfl)
                change wpList _ _ _ _ _ wr.drew
                go_wp2_with fail
                refine (K1.out wr.drew hix hiz).mono ?_
                rintro e wa ⟨rfl, ba0⟩
                have ba : Below wr.heap.size wr wa := ⟨ba0.os, ba0.tape, ba0.output, ba0.size, ba0.block⟩
                clear ba0
                replace y0 := (ba.cell (cell_lt y0)).trans y0
                replace z0 := (ba.cell (cell_lt z0)).trans z0
                replace y1 := (ba.cell (cell_lt y1)).trans y1
                replace z1 := (ba.cell (cell_lt z1)).trans z1
                replace y2 := (ba.cell (cell_lt y2)).trans y2
                replace z2 := (ba.cell (cell_lt z2)).trans z2
                replace y3 := (ba.cell (cell_lt y3)).trans y3
                replace z3 := (ba.cell (cell_lt z3)).trans z3
                replace y4 := (ba.cell (cell_lt y4)).trans y4
                replace z4 := (ba.cell (cell_lt z4)).trans z4
                replace hiy := hiy.then_ ba
                replace hiz := hiz.then_ ba
                have HBA := Lib.hid (below_then HBK.out ba)
                clear x0 x1 x2 x3 x4 hix ba
                go_wp2_with fail
                go_still_tail 8, (by kernel_rfl)
                change wpList _ _ _ _ _ wa.drew
                go_wp2_with fail
                refine (K2.out wa.drew hiy hiz).mono ?_
                rintro e wb ⟨rfl, bb0⟩
                have bb : Below wa.heap.size wa wb := ⟨bb0.os, bb0.tape, bb0.output, bb0.size, bb0.block⟩
                have HBB := Lib.hid (below_then HBA.out bb)
                clear bb0 bb y0 y1 y2 y3 y4 z0 z1 z2 z3 z4 hiy hiz
                cases bw <;> cases bn
                all_goals
                  go_wp2_with fail
                  go_roundw
                  case rel => exact ⟨k + 1, _, by omega, by go_num, rfl, (by have h9 := HS.out; simp at h9; exact h9), HBB.out⟩
                  case measure => simp [intOf]; omega
              · have hd := cnt_done HC.out HPERM.out (by rw [List.length_map]; omega)
                subst hd
                go_wp2_with fail
                go_roundw
                case rel => exact ⟨i + 1, by omega, by go_num, HBK.out⟩
                case measure => simp [intOf]; omega
          · obtain ⟨j, rfl⟩ : ∃ j, i = j + 1 := ⟨i - 1, by omega⟩
            clear hi0
            obtain ⟨b5, o5, k5, n5, s5, la5, lc5, l5, da5, dc5, d5, h5, hy5, hi5, y0, y1, y2, y3, y4⟩ := (HIN.out.then_ HQ0.out).five (i := j) (by omega)
            simp only [Option.some.injEq, Addr.mk.injEq, and_true] at h5
            obtain ⟨rfl, rfl⟩ := h5
            obtain ⟨z0, z1, z2, z3, z4⟩ := HZ.out wo HQ0.out
            have hiz := HIZ.out.then_ HQ0.out
            have K3 := Lib.hid (fun w => compare_any (.mk k5 n5 s5 la5 lc5 l5 da5 dc5 d5) (.mk ki ni si lai lci li dai dci di) w (HOKS.out _ (List.mem_of_getElem? hy5)) HOKI.out)
            have hle := sorted_step HORD.out (i := j) (x := (T.mk k5 n5 s5 la5 lc5 l5 da5 dc5 d5).val) (y := (T.mk ki ni si lai lci li dai dci di).val) (by rw [List.getElem?_map, hy5]; rfl) (by rw [List.getElem?_map, HZI.out]; rfl)
            generalize cmpV (T.mk k5 n5 s5 la5 lc5 l5 da5 dc5 d5).val (T.mk ki ni si lai lci li dai dci di).val = cv at K3 hle
            have W1 := IntWalk.i64_in (j : Int) (by omega)
            have W3 : (0 : Int) ≤ (j : Int) := by omega
            have W4 : (j : Int) < (ts.length : Int) := by omega
            have W5 : (j : Int) + 1 < (ts.length : Int) := by omega
            have W6 : (0 : Int) ≤ (j : Int) + 1 := by omega
            clear hy5
            go_wp2_with fail
            go_still_tail 9, (by kernel_rfl)
            change wpList _ _ _ _ _ wo.drew
            go_wp2_with fail
            refine (K3.out wo.drew hi5 hiz).mono ?_
            rintro e wq ⟨rfl, bq0⟩
            have bq : Below wo.heap.size wo wq := ⟨bq0.os, bq0.tape, bq0.output, bq0.size, bq0.block⟩
            have HQ := Lib.hid (below_then HQ0.out bq)
            clear bq0 bq y0 y1 y2 y3 y4 z0 z1 z2 z3 z4 hi5 hiz W1 W3 W4
            go_wp2_with fail
            go_loopw [30, 31, 32, 33] (fun s30 s31 _ _ wr => ∃ (k : Nat) (d : Int), k ≤ l.length ∧ s31 = .int .i64 k ∧ s30 = .int .i64 d ∧ CntRel (T.mk ki ni si lai lci li dai dci di).val (l.map T.val) (ts.map T.val) k d ∧ Below wS.heap.size wS wr) (fun _ s31 _ _ _ => l.length - (intOf s31).toNat)
            case atStart => exact ⟨0, 0, by omega, rfl, rfl, cnt_zero _ _ _, HQ.out⟩
            case round =>
              obtain ⟨k, d, hk, rfl, rfl, hcr, hbk⟩ := hrel
              have hcb := cnt_bounds hcr
              have HC := Lib.hid hcr
              have HBK := Lib.hid hbk
              clear hcr hbk
              by_cases hkl : k < l.length
              · obtain ⟨b1, o1, k1, n1, s1, la1, lc1, l1, da1, dc1, d1, rfl, hx, hix, x0, x1, x2, x3, x4⟩ := (HL.out.then_ (below_then HBS.out HBK.out)).five hkl
                obtain ⟨b2, o2, k2, n2, s2, la2, lc2, l2, da2, dc2, d2, hau, hy, hiy, y0, y1, y2, y3, y4⟩ := (HIN.out.then_ HBK.out).five (i := k) (by omega)
                simp only [Option.some.injEq, Addr.mk.injEq, and_true] at hau
                obtain ⟨rfl, rfl⟩ := hau
                obtain ⟨z0, z1, z2, z3, z4⟩ := HZ.out wr HBK.out
                have hiz := HIZ.out.then_ HBK.out
                have K1 := Lib.hid (fun w => same_any (.mk k1 n1 s1 la1 lc1 l1 da1 dc1 d1) (.mk ki ni si lai lci li dai dci di) w (HK.out _ (List.mem_of_getElem? hx)) HOKI.out)
                have K2 := Lib.hid (fun w => same_any (.mk k2 n2 s2 la2 lc2 l2 da2 dc2 d2) (.mk ki ni si lai lci li dai dci di) w (HOKS.out _ (List.mem_of_getElem? hy)) HOKI.out)
                have HS := Lib.hid (cnt_step HC.out (x := (T.mk k1 n1 s1 la1 lc1 l1 da1 dc1 d1).val) (y := (T.mk k2 n2 s2 la2 lc2 l2 da2 dc2 d2).val) (by rw [List.getElem?_map, hx]; rfl) (by rw [List.getElem?_map, hy]; rfl))
                generalize sameV (T.mk k1 n1 s1 la1 lc1 l1 da1 dc1 d1).val (T.mk ki ni si lai lci li dai dci di).val = bw at K1 HS
                generalize sameV (T.mk k2 n2 s2 la2 lc2 l2 da2 dc2 d2).val (T.mk ki ni si lai lci li dai dci di).val = bn at K2 HS
                clear hx hy
                have hks : k < ts.length := by omega
                have hks2 : (k : Int) < (ts.length : Int) := by omega
                have hks3 : (k : Int) < (l.length : Int) := by omega
                have hks4 : (0 : Int) ≤ (k : Int) := by omega
                go_wp2_with fail
                go_still_tail 8, (by kernel_rfl)
                change wpList _ _ _ _ _ wr.drew
                go_wp2_with fail
                refine (K1.out wr.drew hix hiz).mono ?_
                rintro e wa ⟨rfl, ba0⟩
                have ba : Below wr.heap.size wr wa := ⟨ba0.os, ba0.tape, ba0.output, ba0.size, ba0.block⟩
                clear ba0
                replace y0 := (ba.cell (cell_lt y0)).trans y0
                replace z0 := (ba.cell (cell_lt z0)).trans z0
                replace y1 := (ba.cell (cell_lt y1)).trans y1
                replace z1 := (ba.cell (cell_lt z1)).trans z1
                replace y2 := (ba.cell (cell_lt y2)).trans y2
                replace z2 := (ba.cell (cell_lt z2)).trans z2
                replace y3 := (ba.cell (cell_lt y3)).trans y3
                replace z3 := (ba.cell (cell_lt z3)).trans z3
                replace y4 := (ba.cell (cell_lt y4)).trans y4
                replace z4 := (ba.cell (cell_lt z4)).trans z4
                replace hiy := hiy.then_ ba
                replace hiz := hiz.then_ ba
                have HBA := Lib.hid (below_then HBK.out ba)
                clear x0 x1 x2 x3 x4 hix ba
                go_wp2_with fail
                go_still_tail 8, (by kernel_rfl)
                change wpList _ _ _ _ _ wa.drew
                go_wp2_with fail
                refine (K2.out wa.drew hiy hiz).mono ?_
                rintro e wb ⟨rfl, bb0⟩
                have bb : Below wa.heap.size wa wb := ⟨bb0.os, bb0.tape, bb0.output, bb0.size, bb0.block⟩
                have HBB := Lib.hid (below_then HBA.out bb)
                clear bb0 bb y0 y1 y2 y3 y4 z0 z1 z2 z3 z4 hiy hiz
                cases bw <;> cases bn
                all_goals
                  go_wp2_with fail
                  go_roundw
                  case rel => exact ⟨k + 1, _, by omega, by go_num, rfl, (by have h9 := HS.out; simp at h9; exact h9), HBB.out⟩
                  case measure => simp [intOf]; omega
              · have hd := cnt_done HC.out HPERM.out (by rw [List.length_map]; omega)
                subst hd
                go_wp2_with fail
                go_roundw
                case rel => exact ⟨(j + 1) + 1, by omega, by go_num, HBK.out⟩
                case measure => simp [intOf]; omega
        · go_wp2_with fail
          go_ret
          exact ⟨rfl, below_then HBS.out hbi⟩
    · have hob : (!(o.toList == s.toList)) = true := by simp [ho]
      have hob2 : (o.toList == s.toList) = false := by simp [ho]
      have HNE := Lib.hid ho
      clear ho
      go_wp2_with fail
      refine (get_any (.mk 5 nv tv av cv lv bv ev dv) OV.out o _ (HV.out.then_ ST.out.below)).mono ?_
      intro e w7 hg7
      obtain ⟨r, rfl, vr, or, b7⟩ := gets_one hg7
      generalize hbr : (getV (T.mk 5 nv tv av cv lv bv ev dv).val o).isSome = isr
      have HBR := Lib.hid hbr
      clear hbr
      have z7 := b7.size
      simp only [World.size_alloc] at z7
      replace ST := Lib.hid (ST.out.own_add b7 or)
      rw [World.size_alloc] at ST
      obtain ⟨kr, nr, tr, ar, cr, lr, br, er, dr⟩ := r
      dsimp only [T.arg, T.cells]
      have VR := Lib.hid vr
      replace ST := Lib.hid (ST.out.box_add [.int .i64 kr, .int .i64 nr, .string tr, .slice ar lr.length cr, .slice br dr.length er])
      clear b7 or vr hg7 fv fh
      have fh : ∀ o, (w7.alloc (.cells [.int .i64 kr, .int .i64 nr, .string tr, .slice ar lr.length cr, .slice br dr.length er].toArray 25)).cell? ⟨w2.heap.size, o, none⟩ = (#[.int .i64 kh, .int .i64 nh, .string th, .slice ah lh.length ch, .slice bh dh.length eh] : Array Value)[o]? := ST.out.cells m4
      go_wp2_with fail
      refine (get_any (.mk kh nh th ah ch lh bh eh dh) (ST.out.own _ m4).1.ok o _ (ST.out.own _ m4).1.in_).mono ?_
      intro e w8 hg8
      obtain ⟨u, rfl, vu, ou, b8⟩ := gets_one hg8
      have G3 : getV (T.mk kh nh th ah ch lh bh eh dh).val o = getV (T.mk 5 nv tv av cv lv bv ev dv).val o := by rw [VH.out]; exact get_with_other HE.out HNE.out
      rw [G3] at vu ⊢
      rw [HBR.out]
      have z8 := b8.size
      simp only [World.size_alloc] at z8
      replace ST := Lib.hid (ST.out.own_add b8 ou)
      rw [World.size_alloc] at ST
      obtain ⟨ku, nu, tu, au, cu, lu, bu, eu, du⟩ := u
      dsimp only [T.arg, T.cells]
      have VU := Lib.hid vu
      replace ST := Lib.hid (ST.out.box_add [.int .i64 ku, .int .i64 nu, .string tu, .slice au lu.length cu, .slice bu du.length eu])
      clear b8 ou vu hg8 G3 fh
      have fj : ∀ o, (w8.alloc (.cells [.int .i64 ku, .int .i64 nu, .string tu, .slice au lu.length cu, .slice bu du.length eu].toArray 25)).cell? ⟨w3.heap.size, o, none⟩ = (#[.int .i64 kj, .int .i64 nj, .string tj, .slice aj lj.length cj, .slice bj dj.length ej] : Array Value)[o]? := ST.out.cells m4
      go_wp2_with fail
      refine (get_any (.mk kj nj tj aj cj lj bj ej dj) (ST.out.own _ m4).1.ok o _ (ST.out.own _ m4).1.in_).mono ?_
      intro e w9 hg9
      obtain ⟨p, rfl, vp, op, b9⟩ := gets_one hg9
      have G4 : getV (T.mk kj nj tj aj cj lj bj ej dj).val o = getV (T.mk 5 nv tv av cv lv bv ev dv).val o := by rw [VJ.out]; exact get_without_other HE.out HNE.out
      rw [G4] at vp ⊢
      rw [HBR.out]
      have z9 := b9.size
      simp only [World.size_alloc] at z9
      replace ST := Lib.hid (ST.out.own_add b9 op)
      rw [World.size_alloc] at ST
      obtain ⟨kp, np, tp, ap, cp, lp, bp, ep, dp⟩ := p
      dsimp only [T.arg, T.cells]
      have VP := Lib.hid vp
      replace ST := Lib.hid (ST.out.box_add [.int .i64 kp, .int .i64 np, .string tp, .slice ap lp.length cp, .slice bp dp.length ep])
      clear b9 op vp hg9 G4 fj
      have fr : ∀ o, (w9.alloc (.cells [.int .i64 kp, .int .i64 np, .string tp, .slice ap lp.length cp, .slice bp dp.length ep].toArray 25)).cell? ⟨w7.heap.size, o, none⟩ = (#[.int .i64 kr, .int .i64 nr, .string tr, .slice ar lr.length cr, .slice br dr.length er] : Array Value)[o]? := ST.out.cells m2
      have fu : ∀ o, (w9.alloc (.cells [.int .i64 kp, .int .i64 np, .string tp, .slice ap lp.length cp, .slice bp dp.length ep].toArray 25)).cell? ⟨w8.heap.size, o, none⟩ = (#[.int .i64 ku, .int .i64 nu, .string tu, .slice au lu.length cu, .slice bu du.length eu] : Array Value)[o]? := ST.out.cells m1
      go_wp2_with fail
      refine (same_any (.mk kr nr tr ar cr lr br er dr) (.mk ku nu tu au cu lu bu eu du) _ (ST.out.own _ m2).1.ok (ST.out.own _ m1).1.ok (ST.out.own _ m2).1.in_ (ST.out.own _ m1).1.in_).mono ?_
      rintro e w10 ⟨rfl, b10⟩
      rw [same_self (show (T.mk kr nr tr ar cr lr br er dr).val = (T.mk ku nu tu au cu lu bu eu du).val by rw [VR.out, VU.out])]
      replace ST := Lib.hid (ST.out.then_ b10)
      clear b10 fr fu
      have fr : ∀ o, w10.cell? ⟨w7.heap.size, o, none⟩ = (#[.int .i64 kr, .int .i64 nr, .string tr, .slice ar lr.length cr, .slice br dr.length er] : Array Value)[o]? := ST.out.cells m2
      have fp : ∀ o, w10.cell? ⟨w9.heap.size, o, none⟩ = (#[.int .i64 kp, .int .i64 np, .string tp, .slice ap lp.length cp, .slice bp dp.length ep] : Array Value)[o]? := ST.out.cells m0
      go_wp2_with fail
      refine (same_any (.mk kr nr tr ar cr lr br er dr) (.mk kp np tp ap cp lp bp ep dp) _ (ST.out.own _ m2).1.ok (ST.out.own _ m0).1.ok (ST.out.own _ m2).1.in_ (ST.out.own _ m0).1.in_).mono ?_
      rintro e w11 ⟨rfl, b11⟩
      rw [same_self (show (T.mk kr nr tr ar cr lr br er dr).val = (T.mk kp np tp ap cp lp bp ep dp).val by rw [VR.out, VP.out])]
      replace ST := Lib.hid (ST.out.then_ b11)
      have hbb : (isr != isr) = false := by simp
      clear b11 fr fp
      go_wp2_with fail
      have HBX := Lib.hid (ST.out.below)
      refine (sort_any la lc l _ (HL.out.then_ HBX.out) hb80 HK.out).mono ?_
      intro e wS hsS
      obtain ⟨au, cu, ts, rfl, vs, os, bS⟩ := sorts_own hsS
      have HBS := Lib.hid (below_then HBX.out bS)
      have hlen : ts.length = l.length := by have h1 := congrArg List.length vs; rw [sortG_len] at h1; simpa using h1
      have hl1 : ts.length ≤ l.length := Nat.le_of_eq hlen
      have hl2 : l.length ≤ ts.length := Nat.le_of_eq hlen.symm
      have hne : ((ts.length : Int) != (l.length : Int)) = false := by simp [hlen]
      have HIN := Lib.hid os.in_.parts.1
      have HOKS := Lib.hid (asV_ok os)
      have HPERM := Lib.hid (show (ts.map T.val).Perm (l.map T.val) by rw [vs]; exact sortG_perm _ _ _ (Nat.le_refl _))
      have HORD := Lib.hid (show Ord cmpV (ts.map T.val) by rw [vs]; exact sortG_ord pre_cmpV _ _ (Nat.le_refl _))
      clear hlen vs os bS hsS
      go_wp2_with fail
      go_loopw [28, 29, 30, 31, 32, 33] (fun s28 _ _ _ _ _ wr => ∃ (i : Nat), i ≤ ts.length ∧ s28 = .int .i64 i ∧ Below wS.heap.size wS wr) (fun s28 _ _ _ _ _ _ => ts.length - (intOf s28).toNat)
      case atStart => exact ⟨0, by omega, rfl, Below.refl _ _⟩
      case round =>
        obtain ⟨i, hi, rfl, hbi⟩ := hrel
        by_cases hil : i < ts.length
        · obtain ⟨bi, oi, ki, ni, si, lai, lci, li, dai, dci, di, rfl, hz, hiz, -, -, -, -, -⟩ := HIN.out.five hil
          have HZ := Lib.hid (fun (wx : World) (h : Below wS.heap.size wS wx) => (show wx.cell? ⟨bi, oi + i * 5, none⟩ = some (.int .i64 ki) ∧ wx.cell? ⟨bi, oi + i * 5 + 1, none⟩ = some (.int .i64 ni) ∧ wx.cell? ⟨bi, oi + i * 5 + 2, none⟩ = some (.string si) ∧ wx.cell? ⟨bi, oi + i * 5 + 3, none⟩ = some (.slice lai li.length lci) ∧ wx.cell? ⟨bi, oi + i * 5 + 4, none⟩ = some (.slice dai di.length dci) from by
            obtain ⟨b7, o7, k7, n7, s7, la7, lc7, l7, da7, dc7, d7, h7, hz7, -, q0, q1, q2, q3, q4⟩ := (HIN.out.then_ h).five hil
            simp only [Option.some.injEq, Addr.mk.injEq, and_true] at h7
            obtain ⟨rfl, rfl⟩ := h7
            rw [hz] at hz7
            cases hz7
            exact ⟨q0, q1, q2, q3, q4⟩))
          have HIZ := Lib.hid hiz
          have HOKI := Lib.hid (HOKS.out _ (List.mem_of_getElem? hz))
          have HZI := Lib.hid hz
          clear hz hiz
          have HQ0 := Lib.hid hbi
          clear hbi
          obtain ⟨wo, rfl⟩ : ∃ wo : World, wo = wr := ⟨_, rfl⟩
          by_cases hi0 : i = 0
          · have hig : decide ((0 : Int) < (i : Int)) = false := by simp; omega
            have hig2 : decide (0 < i) = false := by simp; omega
            have HI0 := Lib.hid hi0
            clear hi0
            have HQ := HQ0
            go_wp2_with fail
            go_loopw [30, 31, 32, 33] (fun s30 s31 _ _ wr => ∃ (k : Nat) (d : Int), k ≤ l.length ∧ s31 = .int .i64 k ∧ s30 = .int .i64 d ∧ CntRel (T.mk ki ni si lai lci li dai dci di).val (l.map T.val) (ts.map T.val) k d ∧ Below wS.heap.size wS wr) (fun _ s31 _ _ _ => l.length - (intOf s31).toNat)
            case atStart => exact ⟨0, 0, by omega, rfl, rfl, cnt_zero _ _ _, HQ.out⟩
            case round =>
              obtain ⟨k, d, hk, rfl, rfl, hcr, hbk⟩ := hrel
              have hcb := cnt_bounds hcr
              have HC := Lib.hid hcr
              have HBK := Lib.hid hbk
              clear hcr hbk
              by_cases hkl : k < l.length
              · obtain ⟨b1, o1, k1, n1, s1, la1, lc1, l1, da1, dc1, d1, rfl, hx, hix, x0, x1, x2, x3, x4⟩ := (HL.out.then_ (below_then HBS.out HBK.out)).five hkl
                obtain ⟨b2, o2, k2, n2, s2, la2, lc2, l2, da2, dc2, d2, hau, hy, hiy, y0, y1, y2, y3, y4⟩ := (HIN.out.then_ HBK.out).five (i := k) (by omega)
                simp only [Option.some.injEq, Addr.mk.injEq, and_true] at hau
                obtain ⟨rfl, rfl⟩ := hau
                obtain ⟨z0, z1, z2, z3, z4⟩ := HZ.out wr HBK.out
                have hiz := HIZ.out.then_ HBK.out
                have K1 := Lib.hid (fun w => same_any (.mk k1 n1 s1 la1 lc1 l1 da1 dc1 d1) (.mk ki ni si lai lci li dai dci di) w (HK.out _ (List.mem_of_getElem? hx)) HOKI.out)
                have K2 := Lib.hid (fun w => same_any (.mk k2 n2 s2 la2 lc2 l2 da2 dc2 d2) (.mk ki ni si lai lci li dai dci di) w (HOKS.out _ (List.mem_of_getElem? hy)) HOKI.out)
                have HS := Lib.hid (cnt_step HC.out (x := (T.mk k1 n1 s1 la1 lc1 l1 da1 dc1 d1).val) (y := (T.mk k2 n2 s2 la2 lc2 l2 da2 dc2 d2).val) (by rw [List.getElem?_map, hx]; rfl) (by rw [List.getElem?_map, hy]; rfl))
                generalize sameV (T.mk k1 n1 s1 la1 lc1 l1 da1 dc1 d1).val (T.mk ki ni si lai lci li dai dci di).val = bw at K1 HS
                generalize sameV (T.mk k2 n2 s2 la2 lc2 l2 da2 dc2 d2).val (T.mk ki ni si lai lci li dai dci di).val = bn at K2 HS
                clear hx hy
                have hks : k < ts.length := by omega
                have hks2 : (k : Int) < (ts.length : Int) := by omega
                have hks3 : (k : Int) < (l.length : Int) := by omega
                have hks4 : (0 : Int) ≤ (k : Int) := by omega
                go_wp2_with fail
                go_still_tail 8, (by kernel_rfl)
                change wpList _ _ _ _ _ wr.drew
                go_wp2_with fail
                refine (K1.out wr.drew hix hiz).mono ?_
                rintro e wa ⟨rfl, ba0⟩
                have ba : Below wr.heap.size wr wa := ⟨ba0.os, ba0.tape, ba0.output, ba0.size, ba0.block⟩
                clear ba0
                replace y0 := (ba.cell (cell_lt y0)).trans y0
                replace z0 := (ba.cell (cell_lt z0)).trans z0
                replace y1 := (ba.cell (cell_lt y1)).trans y1
                replace z1 := (ba.cell (cell_lt z1)).trans z1
                replace y2 := (ba.cell (cell_lt y2)).trans y2
                replace z2 := (ba.cell (cell_lt z2)).trans z2
                replace y3 := (ba.cell (cell_lt y3)).trans y3
                replace z3 := (ba.cell (cell_lt z3)).trans z3
                replace y4 := (ba.cell (cell_lt y4)).trans y4
                replace z4 := (ba.cell (cell_lt z4)).trans z4
                replace hiy := hiy.then_ ba
                replace hiz := hiz.then_ ba
                have HBA := Lib.hid (below_then HBK.out ba)
                clear x0 x1 x2 x3 x4 hix ba
                go_wp2_with fail
                go_still_tail 8, (by kernel_rfl)
                change wpList _ _ _ _ _ wa.drew
                go_wp2_with fail
                refine (K2.out wa.drew hiy hiz).mono ?_
                rintro e wb ⟨rfl, bb0⟩
                have bb : Below wa.heap.size wa wb := ⟨bb0.os, bb0.tape, bb0.output, bb0.size, bb0.block⟩
                have HBB := Lib.hid (below_then HBA.out bb)
                clear bb0 bb y0 y1 y2 y3 y4 z0 z1 z2 z3 z4 hiy hiz
                cases bw <;> cases bn
                all_goals
                  go_wp2_with fail
                  go_roundw
                  case rel => exact ⟨k + 1, _, by omega, by go_num, rfl, (by have h9 := HS.out; simp at h9; exact h9), HBB.out⟩
                  case measure => simp [intOf]; omega
              · have hd := cnt_done HC.out HPERM.out (by rw [List.length_map]; omega)
                subst hd
                go_wp2_with fail
                go_roundw
                case rel => exact ⟨i + 1, by omega, by go_num, HBK.out⟩
                case measure => simp [intOf]; omega
          · obtain ⟨j, rfl⟩ : ∃ j, i = j + 1 := ⟨i - 1, by omega⟩
            clear hi0
            obtain ⟨b5, o5, k5, n5, s5, la5, lc5, l5, da5, dc5, d5, h5, hy5, hi5, y0, y1, y2, y3, y4⟩ := (HIN.out.then_ HQ0.out).five (i := j) (by omega)
            simp only [Option.some.injEq, Addr.mk.injEq, and_true] at h5
            obtain ⟨rfl, rfl⟩ := h5
            obtain ⟨z0, z1, z2, z3, z4⟩ := HZ.out wo HQ0.out
            have hiz := HIZ.out.then_ HQ0.out
            have K3 := Lib.hid (fun w => compare_any (.mk k5 n5 s5 la5 lc5 l5 da5 dc5 d5) (.mk ki ni si lai lci li dai dci di) w (HOKS.out _ (List.mem_of_getElem? hy5)) HOKI.out)
            have hle := sorted_step HORD.out (i := j) (x := (T.mk k5 n5 s5 la5 lc5 l5 da5 dc5 d5).val) (y := (T.mk ki ni si lai lci li dai dci di).val) (by rw [List.getElem?_map, hy5]; rfl) (by rw [List.getElem?_map, HZI.out]; rfl)
            generalize cmpV (T.mk k5 n5 s5 la5 lc5 l5 da5 dc5 d5).val (T.mk ki ni si lai lci li dai dci di).val = cv at K3 hle
            have W1 := IntWalk.i64_in (j : Int) (by omega)
            have W3 : (0 : Int) ≤ (j : Int) := by omega
            have W4 : (j : Int) < (ts.length : Int) := by omega
            have W5 : (j : Int) + 1 < (ts.length : Int) := by omega
            have W6 : (0 : Int) ≤ (j : Int) + 1 := by omega
            clear hy5
            go_wp2_with fail
            go_still_tail 9, (by kernel_rfl)
            change wpList _ _ _ _ _ wo.drew
            go_wp2_with fail
            refine (K3.out wo.drew hi5 hiz).mono ?_
            rintro e wq ⟨rfl, bq0⟩
            have bq : Below wo.heap.size wo wq := ⟨bq0.os, bq0.tape, bq0.output, bq0.size, bq0.block⟩
            have HQ := Lib.hid (below_then HQ0.out bq)
            clear bq0 bq y0 y1 y2 y3 y4 z0 z1 z2 z3 z4 hi5 hiz W1 W3 W4
            go_wp2_with fail
            go_loopw [30, 31, 32, 33] (fun s30 s31 _ _ wr => ∃ (k : Nat) (d : Int), k ≤ l.length ∧ s31 = .int .i64 k ∧ s30 = .int .i64 d ∧ CntRel (T.mk ki ni si lai lci li dai dci di).val (l.map T.val) (ts.map T.val) k d ∧ Below wS.heap.size wS wr) (fun _ s31 _ _ _ => l.length - (intOf s31).toNat)
            case atStart => exact ⟨0, 0, by omega, rfl, rfl, cnt_zero _ _ _, HQ.out⟩
            case round =>
              obtain ⟨k, d, hk, rfl, rfl, hcr, hbk⟩ := hrel
              have hcb := cnt_bounds hcr
              have HC := Lib.hid hcr
              have HBK := Lib.hid hbk
              clear hcr hbk
              by_cases hkl : k < l.length
              · obtain ⟨b1, o1, k1, n1, s1, la1, lc1, l1, da1, dc1, d1, rfl, hx, hix, x0, x1, x2, x3, x4⟩ := (HL.out.then_ (below_then HBS.out HBK.out)).five hkl
                obtain ⟨b2, o2, k2, n2, s2, la2, lc2, l2, da2, dc2, d2, hau, hy, hiy, y0, y1, y2, y3, y4⟩ := (HIN.out.then_ HBK.out).five (i := k) (by omega)
                simp only [Option.some.injEq, Addr.mk.injEq, and_true] at hau
                obtain ⟨rfl, rfl⟩ := hau
                obtain ⟨z0, z1, z2, z3, z4⟩ := HZ.out wr HBK.out
                have hiz := HIZ.out.then_ HBK.out
                have K1 := Lib.hid (fun w => same_any (.mk k1 n1 s1 la1 lc1 l1 da1 dc1 d1) (.mk ki ni si lai lci li dai dci di) w (HK.out _ (List.mem_of_getElem? hx)) HOKI.out)
                have K2 := Lib.hid (fun w => same_any (.mk k2 n2 s2 la2 lc2 l2 da2 dc2 d2) (.mk ki ni si lai lci li dai dci di) w (HOKS.out _ (List.mem_of_getElem? hy)) HOKI.out)
                have HS := Lib.hid (cnt_step HC.out (x := (T.mk k1 n1 s1 la1 lc1 l1 da1 dc1 d1).val) (y := (T.mk k2 n2 s2 la2 lc2 l2 da2 dc2 d2).val) (by rw [List.getElem?_map, hx]; rfl) (by rw [List.getElem?_map, hy]; rfl))
                generalize sameV (T.mk k1 n1 s1 la1 lc1 l1 da1 dc1 d1).val (T.mk ki ni si lai lci li dai dci di).val = bw at K1 HS
                generalize sameV (T.mk k2 n2 s2 la2 lc2 l2 da2 dc2 d2).val (T.mk ki ni si lai lci li dai dci di).val = bn at K2 HS
                clear hx hy
                have hks : k < ts.length := by omega
                have hks2 : (k : Int) < (ts.length : Int) := by omega
                have hks3 : (k : Int) < (l.length : Int) := by omega
                have hks4 : (0 : Int) ≤ (k : Int) := by omega
                go_wp2_with fail
                go_still_tail 8, (by kernel_rfl)
                change wpList _ _ _ _ _ wr.drew
                go_wp2_with fail
                refine (K1.out wr.drew hix hiz).mono ?_
                rintro e wa ⟨rfl, ba0⟩
                have ba : Below wr.heap.size wr wa := ⟨ba0.os, ba0.tape, ba0.output, ba0.size, ba0.block⟩
                clear ba0
                replace y0 := (ba.cell (cell_lt y0)).trans y0
                replace z0 := (ba.cell (cell_lt z0)).trans z0
                replace y1 := (ba.cell (cell_lt y1)).trans y1
                replace z1 := (ba.cell (cell_lt z1)).trans z1
                replace y2 := (ba.cell (cell_lt y2)).trans y2
                replace z2 := (ba.cell (cell_lt z2)).trans z2
                replace y3 := (ba.cell (cell_lt y3)).trans y3
                replace z3 := (ba.cell (cell_lt z3)).trans z3
                replace y4 := (ba.cell (cell_lt y4)).trans y4
                replace z4 := (ba.cell (cell_lt z4)).trans z4
                replace hiy := hiy.then_ ba
                replace hiz := hiz.then_ ba
                have HBA := Lib.hid (below_then HBK.out ba)
                clear x0 x1 x2 x3 x4 hix ba
                go_wp2_with fail
                go_still_tail 8, (by kernel_rfl)
                change wpList _ _ _ _ _ wa.drew
                go_wp2_with fail
                refine (K2.out wa.drew hiy hiz).mono ?_
                rintro e wb ⟨rfl, bb0⟩
                have bb : Below wa.heap.size wa wb := ⟨bb0.os, bb0.tape, bb0.output, bb0.size, bb0.block⟩
                have HBB := Lib.hid (below_then HBA.out bb)
                clear bb0 bb y0 y1 y2 y3 y4 z0 z1 z2 z3 z4 hiy hiz
                cases bw <;> cases bn
                all_goals
                  go_wp2_with fail
                  go_roundw
                  case rel => exact ⟨k + 1, _, by omega, by go_num, rfl, (by have h9 := HS.out; simp at h9; exact h9), HBB.out⟩
                  case measure => simp [intOf]; omega
              · have hd := cnt_done HC.out HPERM.out (by rw [List.length_map]; omega)
                subst hd
                go_wp2_with fail
                go_roundw
                case rel => exact ⟨(j + 1) + 1, by omega, by go_num, HBK.out⟩
                case measure => simp [intOf]; omega
        · go_wp2_with fail
          go_ret
          exact ⟨rfl, below_then HBS.out hbi⟩
  · have k5b : ((kv : Int) == 5) = false := by simp [k5]
    clear k5
    go_wp2_with fail
    clear fv fh
    have HBX := Lib.hid (ST.out.below)
    refine (sort_any la lc l _ (HL.out.then_ HBX.out) hb80 HK.out).mono ?_
    intro e wS hsS
    obtain ⟨au, cu, ts, rfl, vs, os, bS⟩ := sorts_own hsS
    have HBS := Lib.hid (below_then HBX.out bS)
    have hlen : ts.length = l.length := by have h1 := congrArg List.length vs; rw [sortG_len] at h1; simpa using h1
    have hl1 : ts.length ≤ l.length := Nat.le_of_eq hlen
    have hl2 : l.length ≤ ts.length := Nat.le_of_eq hlen.symm
    have hne : ((ts.length : Int) != (l.length : Int)) = false := by simp [hlen]
    have HIN := Lib.hid os.in_.parts.1
    have HOKS := Lib.hid (asV_ok os)
    have HPERM := Lib.hid (show (ts.map T.val).Perm (l.map T.val) by rw [vs]; exact sortG_perm _ _ _ (Nat.le_refl _))
    have HORD := Lib.hid (show Ord cmpV (ts.map T.val) by rw [vs]; exact sortG_ord pre_cmpV _ _ (Nat.le_refl _))
    clear hlen vs os bS hsS
    go_wp2_with fail
    go_loopw [28, 29, 30, 31, 32, 33] (fun s28 _ _ _ _ _ wr => ∃ (i : Nat), i ≤ ts.length ∧ s28 = .int .i64 i ∧ Below wS.heap.size wS wr) (fun s28 _ _ _ _ _ _ => ts.length - (intOf s28).toNat)
    case atStart => exact ⟨0, by omega, rfl, Below.refl _ _⟩
    case round =>
      obtain ⟨i, hi, rfl, hbi⟩ := hrel
      by_cases hil : i < ts.length
      · obtain ⟨bi, oi, ki, ni, si, lai, lci, li, dai, dci, di, rfl, hz, hiz, -, -, -, -, -⟩ := HIN.out.five hil
        have HZ := Lib.hid (fun (wx : World) (h : Below wS.heap.size wS wx) => (show wx.cell? ⟨bi, oi + i * 5, none⟩ = some (.int .i64 ki) ∧ wx.cell? ⟨bi, oi + i * 5 + 1, none⟩ = some (.int .i64 ni) ∧ wx.cell? ⟨bi, oi + i * 5 + 2, none⟩ = some (.string si) ∧ wx.cell? ⟨bi, oi + i * 5 + 3, none⟩ = some (.slice lai li.length lci) ∧ wx.cell? ⟨bi, oi + i * 5 + 4, none⟩ = some (.slice dai di.length dci) from by
          obtain ⟨b7, o7, k7, n7, s7, la7, lc7, l7, da7, dc7, d7, h7, hz7, -, q0, q1, q2, q3, q4⟩ := (HIN.out.then_ h).five hil
          simp only [Option.some.injEq, Addr.mk.injEq, and_true] at h7
          obtain ⟨rfl, rfl⟩ := h7
          rw [hz] at hz7
          cases hz7
          exact ⟨q0, q1, q2, q3, q4⟩))
        have HIZ := Lib.hid hiz
        have HOKI := Lib.hid (HOKS.out _ (List.mem_of_getElem? hz))
        have HZI := Lib.hid hz
        clear hz hiz
        have HQ0 := Lib.hid hbi
        clear hbi
        obtain ⟨wo, rfl⟩ : ∃ wo : World, wo = wr := ⟨_, rfl⟩
        by_cases hi0 : i = 0
        · have hig : decide ((0 : Int) < (i : Int)) = false := by simp; omega
          have hig2 : decide (0 < i) = false := by simp; omega
          have HI0 := Lib.hid hi0
          clear hi0
          have HQ := HQ0
          go_wp2_with fail
          go_loopw [30, 31, 32, 33] (fun s30 s31 _ _ wr => ∃ (k : Nat) (d : Int), k ≤ l.length ∧ s31 = .int .i64 k ∧ s30 = .int .i64 d ∧ CntRel (T.mk ki ni si lai lci li dai dci di).val (l.map T.val) (ts.map T.val) k d ∧ Below wS.heap.size wS wr) (fun _ s31 _ _ _ => l.length - (intOf s31).toNat)
          case atStart => exact ⟨0, 0, by omega, rfl, rfl, cnt_zero _ _ _, HQ.out⟩
          case round =>
            obtain ⟨k, d, hk, rfl, rfl, hcr, hbk⟩ := hrel
            have hcb := cnt_bounds hcr
            have HC := Lib.hid hcr
            have HBK := Lib.hid hbk
            clear hcr hbk
            by_cases hkl : k < l.length
            · obtain ⟨b1, o1, k1, n1, s1, la1, lc1, l1, da1, dc1, d1, rfl, hx, hix, x0, x1, x2, x3, x4⟩ := (HL.out.then_ (below_then HBS.out HBK.out)).five hkl
              obtain ⟨b2, o2, k2, n2, s2, la2, lc2, l2, da2, dc2, d2, hau, hy, hiy, y0, y1, y2, y3, y4⟩ := (HIN.out.then_ HBK.out).five (i := k) (by omega)
              simp only [Option.some.injEq, Addr.mk.injEq, and_true] at hau
              obtain ⟨rfl, rfl⟩ := hau
              obtain ⟨z0, z1, z2, z3, z4⟩ := HZ.out wr HBK.out
              have hiz := HIZ.out.then_ HBK.out
              have K1 := Lib.hid (fun w => same_any (.mk k1 n1 s1 la1 lc1 l1 da1 dc1 d1) (.mk ki ni si lai lci li dai dci di) w (HK.out _ (List.mem_of_getElem? hx)) HOKI.out)
              have K2 := Lib.hid (fun w => same_any (.mk k2 n2 s2 la2 lc2 l2 da2 dc2 d2) (.mk ki ni si lai lci li dai dci di) w (HOKS.out _ (List.mem_of_getElem? hy)) HOKI.out)
              have HS := Lib.hid (cnt_step HC.out (x := (T.mk k1 n1 s1 la1 lc1 l1 da1 dc1 d1).val) (y := (T.mk k2 n2 s2 la2 lc2 l2 da2 dc2 d2).val) (by rw [List.getElem?_map, hx]; rfl) (by rw [List.getElem?_map, hy]; rfl))
              generalize sameV (T.mk k1 n1 s1 la1 lc1 l1 da1 dc1 d1).val (T.mk ki ni si lai lci li dai dci di).val = bw at K1 HS
              generalize sameV (T.mk k2 n2 s2 la2 lc2 l2 da2 dc2 d2).val (T.mk ki ni si lai lci li dai dci di).val = bn at K2 HS
              clear hx hy
              have hks : k < ts.length := by omega
              have hks2 : (k : Int) < (ts.length : Int) := by omega
              have hks3 : (k : Int) < (l.length : Int) := by omega
              have hks4 : (0 : Int) ≤ (k : Int) := by omega
              go_wp2_with fail
              go_still_tail 8, (by kernel_rfl)
              change wpList _ _ _ _ _ wr.drew
              go_wp2_with fail
              refine (K1.out wr.drew hix hiz).mono ?_
              rintro e wa ⟨rfl, ba0⟩
              have ba : Below wr.heap.size wr wa := ⟨ba0.os, ba0.tape, ba0.output, ba0.size, ba0.block⟩
              clear ba0
              replace y0 := (ba.cell (cell_lt y0)).trans y0
              replace z0 := (ba.cell (cell_lt z0)).trans z0
              replace y1 := (ba.cell (cell_lt y1)).trans y1
              replace z1 := (ba.cell (cell_lt z1)).trans z1
              replace y2 := (ba.cell (cell_lt y2)).trans y2
              replace z2 := (ba.cell (cell_lt z2)).trans z2
              replace y3 := (ba.cell (cell_lt y3)).trans y3
              replace z3 := (ba.cell (cell_lt z3)).trans z3
              replace y4 := (ba.cell (cell_lt y4)).trans y4
              replace z4 := (ba.cell (cell_lt z4)).trans z4
              replace hiy := hiy.then_ ba
              replace hiz := hiz.then_ ba
              have HBA := Lib.hid (below_then HBK.out ba)
              clear x0 x1 x2 x3 x4 hix ba
              go_wp2_with fail
              go_still_tail 8, (by kernel_rfl)
              change wpList _ _ _ _ _ wa.drew
              go_wp2_with fail
              refine (K2.out wa.drew hiy hiz).mono ?_
              rintro e wb ⟨rfl, bb0⟩
              have bb : Below wa.heap.size wa wb := ⟨bb0.os, bb0.tape, bb0.output, bb0.size, bb0.block⟩
              have HBB := Lib.hid (below_then HBA.out bb)
              clear bb0 bb y0 y1 y2 y3 y4 z0 z1 z2 z3 z4 hiy hiz
              cases bw <;> cases bn
              all_goals
                go_wp2_with fail
                go_roundw
                case rel => exact ⟨k + 1, _, by omega, by go_num, rfl, (by have h9 := HS.out; simp at h9; exact h9), HBB.out⟩
                case measure => simp [intOf]; omega
            · have hd := cnt_done HC.out HPERM.out (by rw [List.length_map]; omega)
              subst hd
              go_wp2_with fail
              go_roundw
              case rel => exact ⟨i + 1, by omega, by go_num, HBK.out⟩
              case measure => simp [intOf]; omega
        · obtain ⟨j, rfl⟩ : ∃ j, i = j + 1 := ⟨i - 1, by omega⟩
          clear hi0
          obtain ⟨b5, o5, k5, n5, s5, la5, lc5, l5, da5, dc5, d5, h5, hy5, hi5, y0, y1, y2, y3, y4⟩ := (HIN.out.then_ HQ0.out).five (i := j) (by omega)
          simp only [Option.some.injEq, Addr.mk.injEq, and_true] at h5
          obtain ⟨rfl, rfl⟩ := h5
          obtain ⟨z0, z1, z2, z3, z4⟩ := HZ.out wo HQ0.out
          have hiz := HIZ.out.then_ HQ0.out
          have K3 := Lib.hid (fun w => compare_any (.mk k5 n5 s5 la5 lc5 l5 da5 dc5 d5) (.mk ki ni si lai lci li dai dci di) w (HOKS.out _ (List.mem_of_getElem? hy5)) HOKI.out)
          have hle := sorted_step HORD.out (i := j) (x := (T.mk k5 n5 s5 la5 lc5 l5 da5 dc5 d5).val) (y := (T.mk ki ni si lai lci li dai dci di).val) (by rw [List.getElem?_map, hy5]; rfl) (by rw [List.getElem?_map, HZI.out]; rfl)
          generalize cmpV (T.mk k5 n5 s5 la5 lc5 l5 da5 dc5 d5).val (T.mk ki ni si lai lci li dai dci di).val = cv at K3 hle
          have W1 := IntWalk.i64_in (j : Int) (by omega)
          have W3 : (0 : Int) ≤ (j : Int) := by omega
          have W4 : (j : Int) < (ts.length : Int) := by omega
          have W5 : (j : Int) + 1 < (ts.length : Int) := by omega
          have W6 : (0 : Int) ≤ (j : Int) + 1 := by omega
          clear hy5
          go_wp2_with fail
          go_still_tail 9, (by kernel_rfl)
          change wpList _ _ _ _ _ wo.drew
          go_wp2_with fail
          refine (K3.out wo.drew hi5 hiz).mono ?_
          rintro e wq ⟨rfl, bq0⟩
          have bq : Below wo.heap.size wo wq := ⟨bq0.os, bq0.tape, bq0.output, bq0.size, bq0.block⟩
          have HQ := Lib.hid (below_then HQ0.out bq)
          clear bq0 bq y0 y1 y2 y3 y4 z0 z1 z2 z3 z4 hi5 hiz W1 W3 W4
          go_wp2_with fail
          go_loopw [30, 31, 32, 33] (fun s30 s31 _ _ wr => ∃ (k : Nat) (d : Int), k ≤ l.length ∧ s31 = .int .i64 k ∧ s30 = .int .i64 d ∧ CntRel (T.mk ki ni si lai lci li dai dci di).val (l.map T.val) (ts.map T.val) k d ∧ Below wS.heap.size wS wr) (fun _ s31 _ _ _ => l.length - (intOf s31).toNat)
          case atStart => exact ⟨0, 0, by omega, rfl, rfl, cnt_zero _ _ _, HQ.out⟩
          case round =>
            obtain ⟨k, d, hk, rfl, rfl, hcr, hbk⟩ := hrel
            have hcb := cnt_bounds hcr
            have HC := Lib.hid hcr
            have HBK := Lib.hid hbk
            clear hcr hbk
            by_cases hkl : k < l.length
            · obtain ⟨b1, o1, k1, n1, s1, la1, lc1, l1, da1, dc1, d1, rfl, hx, hix, x0, x1, x2, x3, x4⟩ := (HL.out.then_ (below_then HBS.out HBK.out)).five hkl
              obtain ⟨b2, o2, k2, n2, s2, la2, lc2, l2, da2, dc2, d2, hau, hy, hiy, y0, y1, y2, y3, y4⟩ := (HIN.out.then_ HBK.out).five (i := k) (by omega)
              simp only [Option.some.injEq, Addr.mk.injEq, and_true] at hau
              obtain ⟨rfl, rfl⟩ := hau
              obtain ⟨z0, z1, z2, z3, z4⟩ := HZ.out wr HBK.out
              have hiz := HIZ.out.then_ HBK.out
              have K1 := Lib.hid (fun w => same_any (.mk k1 n1 s1 la1 lc1 l1 da1 dc1 d1) (.mk ki ni si lai lci li dai dci di) w (HK.out _ (List.mem_of_getElem? hx)) HOKI.out)
              have K2 := Lib.hid (fun w => same_any (.mk k2 n2 s2 la2 lc2 l2 da2 dc2 d2) (.mk ki ni si lai lci li dai dci di) w (HOKS.out _ (List.mem_of_getElem? hy)) HOKI.out)
              have HS := Lib.hid (cnt_step HC.out (x := (T.mk k1 n1 s1 la1 lc1 l1 da1 dc1 d1).val) (y := (T.mk k2 n2 s2 la2 lc2 l2 da2 dc2 d2).val) (by rw [List.getElem?_map, hx]; rfl) (by rw [List.getElem?_map, hy]; rfl))
              generalize sameV (T.mk k1 n1 s1 la1 lc1 l1 da1 dc1 d1).val (T.mk ki ni si lai lci li dai dci di).val = bw at K1 HS
              generalize sameV (T.mk k2 n2 s2 la2 lc2 l2 da2 dc2 d2).val (T.mk ki ni si lai lci li dai dci di).val = bn at K2 HS
              clear hx hy
              have hks : k < ts.length := by omega
              have hks2 : (k : Int) < (ts.length : Int) := by omega
              have hks3 : (k : Int) < (l.length : Int) := by omega
              have hks4 : (0 : Int) ≤ (k : Int) := by omega
              go_wp2_with fail
              go_still_tail 8, (by kernel_rfl)
              change wpList _ _ _ _ _ wr.drew
              go_wp2_with fail
              refine (K1.out wr.drew hix hiz).mono ?_
              rintro e wa ⟨rfl, ba0⟩
              have ba : Below wr.heap.size wr wa := ⟨ba0.os, ba0.tape, ba0.output, ba0.size, ba0.block⟩
              clear ba0
              replace y0 := (ba.cell (cell_lt y0)).trans y0
              replace z0 := (ba.cell (cell_lt z0)).trans z0
              replace y1 := (ba.cell (cell_lt y1)).trans y1
              replace z1 := (ba.cell (cell_lt z1)).trans z1
              replace y2 := (ba.cell (cell_lt y2)).trans y2
              replace z2 := (ba.cell (cell_lt z2)).trans z2
              replace y3 := (ba.cell (cell_lt y3)).trans y3
              replace z3 := (ba.cell (cell_lt z3)).trans z3
              replace y4 := (ba.cell (cell_lt y4)).trans y4
              replace z4 := (ba.cell (cell_lt z4)).trans z4
              replace hiy := hiy.then_ ba
              replace hiz := hiz.then_ ba
              have HBA := Lib.hid (below_then HBK.out ba)
              clear x0 x1 x2 x3 x4 hix ba
              go_wp2_with fail
              go_still_tail 8, (by kernel_rfl)
              change wpList _ _ _ _ _ wa.drew
              go_wp2_with fail
              refine (K2.out wa.drew hiy hiz).mono ?_
              rintro e wb ⟨rfl, bb0⟩
              have bb : Below wa.heap.size wa wb := ⟨bb0.os, bb0.tape, bb0.output, bb0.size, bb0.block⟩
              have HBB := Lib.hid (below_then HBA.out bb)
              clear bb0 bb y0 y1 y2 y3 y4 z0 z1 z2 z3 z4 hiy hiz
              cases bw <;> cases bn
              all_goals
                go_wp2_with fail
                go_roundw
                case rel => exact ⟨k + 1, _, by omega, by go_num, rfl, (by have h9 := HS.out; simp at h9; exact h9), HBB.out⟩
                case measure => simp [intOf]; omega
            · have hd := cnt_done HC.out HPERM.out (by rw [List.length_map]; omega)
              subst hd
              go_wp2_with fail
              go_roundw
              case rel => exact ⟨(j + 1) + 1, by omega, by go_num, HBK.out⟩
              case measure => simp [intOf]; omega
      · go_wp2_with fail
        go_ret
        exact ⟨rfl, below_then HBS.out hbi⟩
end Go.Proofs.YtlmlehjfockkpaaDoor
