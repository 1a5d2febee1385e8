/- The law ValueFields over its contracts: no statement is proved here. -/
import Derived.Test.YtlmlehjfockkpaaDoorStock
import Derived.Test.YtlmlehjfockkpaaDoorSpoil
namespace Go.Proofs.YtlmlehjfockkpaaDoor
open Go.RowKit
set_option maxRecDepth 100000

set_option maxHeartbeats 4000000 in
theorem fields_law (v x : T) (s : ByteArray) (w : World) (ov : v.ok) (ox : x.ok) (os : okLen s.size) (rv : v.val.room 42) (rx : x.val.room 42) (hv : v.In w) (hx : x.In w) (hT : Tabs w) :
    Calls Tryd.prog 5 #[v.arg, .string s, x.arg] w fun e w' => e = .returned (.bool true) ∧ Below w.heap.size w w' := by
  have L1 := Lib.hid (lent_any v ov)
  have L2 := Lib.hid (lent_any x ox)
  have HV := Lib.hid hv
  have HX := Lib.hid hx
  have HT := Lib.hid hT
  have OV := Lib.hid ov
  have OX := Lib.hid ox
  have OS := Lib.hid os
  have RV := Lib.hid rv
  have RX := Lib.hid rx
  clear ov ox os rv rx hv hx hT
  obtain ⟨kv, nv, tv, av, cv, lv, bv, ev, dv⟩ := v
  obtain ⟨kx, nx, tx, ax, cx, lx, bx, ex, dx⟩ := x
  show Calls _ _ #[.agg #[.int .i64 kv, .int .i64 nv, .string tv, .slice av lv.length cv, .slice bv dv.length ev], .string s, .agg #[.int .i64 kx, .int .i64 nx, .string tx, .slice ax lx.length cx, .slice bx dx.length ex]] _ _
  have ST := Lib.hid (((Stock.start w).box_add [.int .i64 kv, .int .i64 nv, .string tv, .slice av lv.length cv, .slice bv dv.length ev]).box_add [.int .i64 kx, .int .i64 nx, .string tx, .slice ax lx.length cx, .slice bx dx.length ex])
  rw [World.size_alloc] at ST
  go_enter Tryd.func5, Tryd.ntmps5
  go_wp2_with fail
  refine (awake_any _ (HT.out.then_ ST.out.below)).mono ?_
  rintro e w1 ⟨rfl, b1⟩
  have z1 : w.heap.size + 2 ≤ w1.heap.size := by have := b1.size; simpa using this
  replace ST := Lib.hid (ST.out.then_ b1)
  have fv : ∀ o, w1.cell? ⟨w.heap.size, o, none⟩ = (#[.int .i64 kv, .int .i64 nv, .string tv, .slice av lv.length cv, .slice bv dv.length ev] : Array Value)[o]? := ST.out.cells m1
  clear b1
  go_wp2_with fail
  refine (L1.out _ (HV.out.then_ ST.out.below)).mono ?_
  rintro e w2 ⟨i, rfl, vi, mi, b2⟩
  have z2 := b2.size
  replace ST := Lib.hid (ST.out.mark_add b2 mi)
  obtain ⟨ki, ni, ti, ai, ci, li, bi, ei, di⟩ := i
  dsimp only [T.arg, T.cells]
  have VI := Lib.hid vi
  replace ST := Lib.hid (ST.out.box_add [.int .i64 ki, .int .i64 ni, .string ti, .slice ai li.length ci, .slice bi di.length ei])
  clear b2 fv mi vi
  have fx : ∀ o, (w2.alloc (.cells [.int .i64 ki, .int .i64 ni, .string ti, .slice ai li.length ci, .slice bi di.length ei].toArray 25)).cell? ⟨w.heap.size + 1, o, none⟩ = (#[.int .i64 kx, .int .i64 nx, .string tx, .slice ax lx.length cx, .slice bx dx.length ex] : Array Value)[o]? := ST.out.cells m1
  go_wp2_with fail
  refine (L2.out _ (HX.out.then_ ST.out.below)).mono ?_
  rintro e w3 ⟨q, rfl, vq, mq, b3⟩
  have z3 := b3.size
  simp only [World.size_alloc] at z3
  replace ST := Lib.hid (ST.out.mark_add b3 mq)
  rw [World.size_alloc] at ST
  obtain ⟨kq, nq, tq, aq, cq, lq, bq, eq, dq⟩ := q
  dsimp only [T.arg, T.cells]
  have VQ := Lib.hid vq
  replace ST := Lib.hid (ST.out.box_add [.int .i64 kq, .int .i64 nq, .string tq, .slice aq lq.length cq, .slice bq dq.length eq])
  clear b3 fx mq vq
  have fi : ∀ o, (w3.alloc (.cells [.int .i64 kq, .int .i64 nq, .string tq, .slice aq lq.length cq, .slice bq dq.length eq].toArray 25)).cell? ⟨w2.heap.size, o, none⟩ = (#[.int .i64 ki, .int .i64 ni, .string ti, .slice ai li.length ci, .slice bi di.length ei] : Array Value)[o]? := ST.out.cells m1
  go_wp2_with fail
  refine (get_any (.mk ki ni ti ai ci li bi ei di) (ST.out.mark _ m1).1.ok s _ (ST.out.mark _ m1).1.in_).mono ?_
  intro e w4 hg4
  obtain ⟨g, rfl, vg, og, b4⟩ := gets_one hg4
  have z4 := b4.size
  simp only [World.size_alloc] at z4
  replace ST := Lib.hid (ST.out.own_add b4 og)
  rw [World.size_alloc] at ST
  obtain ⟨kg, ng, tg, ag, cg, lg, bg, eg, dg⟩ := g
  dsimp only [T.arg, T.cells]
  have VG := Lib.hid vg
  replace ST := Lib.hid (ST.out.box_add [.int .i64 kg, .int .i64 ng, .string tg, .slice ag lg.length cg, .slice bg dg.length eg])
  clear b4 fi og vg hg4
  generalize hbg : (getV (T.mk ki ni ti ai ci li bi ei di).val s).isSome = isg
  have HBG := Lib.hid hbg
  clear hbg
  have RI := Lib.hid (show V.room 42 (T.mk ki ni ti ai ci li bi ei di).val by rw [VI.out]; exact RV.out)
  have fi : ∀ o, (w4.alloc (.cells [.int .i64 kg, .int .i64 ng, .string tg, .slice ag lg.length cg, .slice bg dg.length eg].toArray 25)).cell? ⟨w2.heap.size, o, none⟩ = (#[.int .i64 ki, .int .i64 ni, .string ti, .slice ai li.length ci, .slice bi di.length ei] : Array Value)[o]? := ST.out.cells m2
  have fq : ∀ o, (w4.alloc (.cells [.int .i64 kg, .int .i64 ng, .string tg, .slice ag lg.length cg, .slice bg dg.length eg].toArray 25)).cell? ⟨w3.heap.size, o, none⟩ = (#[.int .i64 kq, .int .i64 nq, .string tq, .slice aq lq.length cq, .slice bq dq.length eq] : Array Value)[o]? := ST.out.cells m1
  go_wp2_with fail
  refine (with_any (.mk ki ni ti ai ci li bi ei di) (.mk kq nq tq aq cq lq bq eq dq) s _ (ST.out.mark _ m1).1.ok (ST.out.mark _ m0).1.ok OS.out (V.room.less _ (by omega) RI.out) (ST.out.mark _ m1).1.in_ (ST.out.mark _ m0).1.in_).mono ?_
  rintro e w5 ⟨h, rfl, vh, oh, b5⟩
  have z5 := b5.size
  simp only [World.size_alloc] at z5
  replace ST := Lib.hid (ST.out.own_add b5 oh)
  rw [World.size_alloc] at ST
  obtain ⟨kh, nh, th, ah, ch, lh, bh, eh, dh⟩ := h
  dsimp only [T.arg, T.cells]
  have VH := Lib.hid vh
  replace ST := Lib.hid (ST.out.box_add [.int .i64 kh, .int .i64 nh, .string th, .slice ah lh.length ch, .slice bh dh.length eh])
  clear b5 fi fq oh vh
  have fi : ∀ o, (w5.alloc (.cells [.int .i64 kh, .int .i64 nh, .string th, .slice ah lh.length ch, .slice bh dh.length eh].toArray 25)).cell? ⟨w2.heap.size, o, none⟩ = (#[.int .i64 ki, .int .i64 ni, .string ti, .slice ai li.length ci, .slice bi di.length ei] : Array Value)[o]? := ST.out.cells m3
  go_wp2_with fail
  refine (without_any (.mk ki ni ti ai ci li bi ei di) s _ (ST.out.mark _ m1).1.ok (ST.out.mark _ m1).1.in_).mono ?_
  rintro e w6 ⟨j, rfl, vj, oj, b6⟩
  have z6 := b6.size
  simp only [World.size_alloc] at z6
  replace ST := Lib.hid (ST.out.own_add b6 oj)
  rw [World.size_alloc] at ST
  obtain ⟨kj, nj, tj, aj, cj, lj, bj, ej, dj⟩ := j
  dsimp only [T.arg, T.cells]
  have VJ := Lib.hid vj
  replace ST := Lib.hid (ST.out.box_add [.int .i64 kj, .int .i64 nj, .string tj, .slice aj lj.length cj, .slice bj dj.length ej])
  clear b6 fi oj vj
  have fi : ∀ o, (w6.alloc (.cells [.int .i64 kj, .int .i64 nj, .string tj, .slice aj lj.length cj, .slice bj dj.length ej].toArray 25)).cell? ⟨w2.heap.size, o, none⟩ = (#[.int .i64 ki, .int .i64 ni, .string ti, .slice ai li.length ci, .slice bi di.length ei] : Array Value)[o]? := ST.out.cells m4
  have fq : ∀ o, (w6.alloc (.cells [.int .i64 kj, .int .i64 nj, .string tj, .slice aj lj.length cj, .slice bj dj.length ej].toArray 25)).cell? ⟨w3.heap.size, o, none⟩ = (#[.int .i64 kq, .int .i64 nq, .string tq, .slice aq lq.length cq, .slice bq dq.length eq] : Array Value)[o]? := ST.out.cells m3
  go_wp2_with fail
  refine (with_any (.mk ki ni ti ai ci li bi ei di) (.mk kq nq tq aq cq lq bq eq dq) s _ (ST.out.mark _ m1).1.ok (ST.out.mark _ m0).1.ok OS.out (V.room.less _ (by omega) RI.out) (ST.out.mark _ m1).1.in_ (ST.out.mark _ m0).1.in_).mono ?_
  rintro e w7 ⟨m, rfl, vm, om, b7⟩
  have z7 := b7.size
  simp only [World.size_alloc] at z7
  replace ST := Lib.hid (ST.out.own_add b7 om)
  rw [World.size_alloc] at ST
  obtain ⟨km, nm, tm, am, cm, lm, bm, em, dm⟩ := m
  dsimp only [T.arg, T.cells]
  have VM := Lib.hid vm
  replace ST := Lib.hid (ST.out.box_add [.int .i64 km, .int .i64 nm, .string tm, .slice am lm.length cm, .slice bm dm.length em])
  clear b7 fi fq om vm
  have fi : ∀ o, (w7.alloc (.cells [.int .i64 km, .int .i64 nm, .string tm, .slice am lm.length cm, .slice bm dm.length em].toArray 25)).cell? ⟨w2.heap.size, o, none⟩ = (#[.int .i64 ki, .int .i64 ni, .string ti, .slice ai li.length ci, .slice bi di.length ei] : Array Value)[o]? := ST.out.cells m5
  have fv : ∀ o, (w7.alloc (.cells [.int .i64 km, .int .i64 nm, .string tm, .slice am lm.length cm, .slice bm dm.length em].toArray 25)).cell? ⟨w.heap.size, o, none⟩ = (#[.int .i64 kv, .int .i64 nv, .string tv, .slice av lv.length cv, .slice bv dv.length ev] : Array Value)[o]? := ST.out.cells m7
  go_wp2_with fail
  refine (kept_any (.mk ki ni ti ai ci li bi ei di) (.mk kv nv tv av cv lv bv ev dv) _ _ (ST.out.mark _ m1).1 OV.out (HV.out.then_ ST.out.below) (In.apart HV.out (ST.out.mark _ m1).1 (by omega)) VI.out).mono ?_
  rintro e w8 ⟨rfl, o8⟩
  have z8 := o8.size
  simp only [World.size_alloc] at z8
  replace ST := Lib.hid ((ST.out.sub (mk' := [_]) (fun _ h => h) (fun _ h => h) (all_cons m0 all_nil)).only _ _ o8 (ST.out.rangeM m1) (by omega) (by repeat' first | exact all_nil | refine all_cons (by dsimp only; omega) ?_) (by repeat' first | exact all_nil | refine all_cons (by dsimp only; omega) ?_) (by repeat' first | exact all_nil | refine all_cons (by dsimp only; omega) ?_))
  clear o8 fi fv
  have fq : ∀ o, w8.cell? ⟨w3.heap.size, o, none⟩ = (#[.int .i64 kq, .int .i64 nq, .string tq, .slice aq lq.length cq, .slice bq dq.length eq] : Array Value)[o]? := ST.out.cells m4
  have fx : ∀ o, w8.cell? ⟨w.heap.size + 1, o, none⟩ = (#[.int .i64 kx, .int .i64 nx, .string tx, .slice ax lx.length cx, .slice bx dx.length ex] : Array Value)[o]? := ST.out.cells m6
  go_wp2_with fail
  refine (kept_any (.mk kq nq tq aq cq lq bq eq dq) (.mk kx nx tx ax cx lx bx ex dx) _ _ (ST.out.mark _ m0).1 OX.out (HX.out.then_ ST.out.below) (In.apart HX.out (ST.out.mark _ m0).1 (by omega)) VQ.out).mono ?_
  rintro e w9 ⟨rfl, o9⟩
  have z9 := o9.size
  replace ST := Lib.hid ((ST.out.sub (mk' := []) (fun _ h => h) (fun _ h => h) all_nil).only _ _ o9 (ST.out.rangeM m0) (by omega) (by repeat' first | exact all_nil | refine all_cons (by dsimp only; omega) ?_) (by repeat' first | exact all_nil | refine all_cons (by dsimp only; omega) ?_) all_nil)
  clear o9 fq fx
  have fv : ∀ o, w9.cell? ⟨w.heap.size, o, none⟩ = (#[.int .i64 kv, .int .i64 nv, .string tv, .slice av lv.length cv, .slice bv dv.length ev] : Array Value)[o]? := ST.out.cells m7
  go_wp2_with fail
  refine (refGet_any (.mk kv nv tv av cv lv bv ev dv) OV.out s _ (HV.out.then_ ST.out.below)).mono ?_
  intro e w10 hg4
  obtain ⟨r, rfl, vr, or, b10⟩ := gets_one hg4
  have z10 := b10.size
  replace ST := Lib.hid (ST.out.own_add b10 or)
  obtain ⟨kr, nr, tr, ar, cr, lr, br, er, dr⟩ := r
  dsimp only [T.arg, T.cells]
  have VR := Lib.hid vr
  have HBR : (getV (T.mk kv nv tv av cv lv bv ev dv).val s).isSome = isg := by rw [← VI.out]; exact HBG.out
  rw [HBR]
  replace ST := Lib.hid (ST.out.box_add [.int .i64 kr, .int .i64 nr, .string tr, .slice ar lr.length cr, .slice br dr.length er])
  clear b10 fv or vr hg4 HBR
  have fg : ∀ o, (w10.alloc (.cells [.int .i64 kr, .int .i64 nr, .string tr, .slice ar lr.length cr, .slice br dr.length er].toArray 25)).cell? ⟨w4.heap.size, o, none⟩ = (#[.int .i64 kg, .int .i64 ng, .string tg, .slice ag lg.length cg, .slice bg dg.length eg] : Array Value)[o]? := ST.out.cells m4
  go_wp2_with fail
  refine (same_any (.mk kg ng tg ag cg lg bg eg dg) (.mk kr nr tr ar cr lr br er dr) _ (ST.out.own _ m4).1.ok (ST.out.own _ m0).1.ok (ST.out.own _ m4).1.in_ (ST.out.own _ m0).1.in_).mono ?_
  rintro e w11 ⟨rfl, b11⟩
  rw [same_self (show (T.mk kg ng tg ag cg lg bg eg dg).val = (T.mk kr nr tr ar cr lr br er dr).val by rw [VG.out, VR.out, VI.out])]
  have z11 := b11.size
  simp only [World.size_alloc] at z11
  replace ST := Lib.hid (ST.out.then_ b11)
  clear b11 fg
  have fh : ∀ o, w11.cell? ⟨w5.heap.size, o, none⟩ = (#[.int .i64 kh, .int .i64 nh, .string th, .slice ah lh.length ch, .slice bh dh.length eh] : Array Value)[o]? := ST.out.cells m3
  have fv : ∀ o, w11.cell? ⟨w.heap.size, o, none⟩ = (#[.int .i64 kv, .int .i64 nv, .string tv, .slice av lv.length cv, .slice bv dv.length ev] : Array Value)[o]? := ST.out.cells m8
  have fx : ∀ o, w11.cell? ⟨w.heap.size + 1, o, none⟩ = (#[.int .i64 kx, .int .i64 nx, .string tx, .slice ax lx.length cx, .slice bx dx.length ex] : Array Value)[o]? := ST.out.cells m7
  go_wp2_with fail
  -- With, the first time
  go_region_held3 (fun w' => w'.cell? ⟨w5.heap.size, 0, none⟩ = some (.int .i64 kh) ∧ w'.cell? ⟨w5.heap.size, 1, none⟩ = some (.int .i64 nh) ∧ w'.cell? ⟨w5.heap.size, 2, none⟩ = some (.string th) ∧ w'.cell? ⟨w5.heap.size, 3, none⟩ = some (.slice ah lh.length ch) ∧ w'.cell? ⟨w5.heap.size, 4, none⟩ = some (.slice bh dh.length eh) ∧ w'.cell? ⟨w.heap.size, 0, none⟩ = some (.int .i64 kv) ∧ w'.cell? ⟨w.heap.size, 1, none⟩ = some (.int .i64 nv) ∧ w'.cell? ⟨w.heap.size, 2, none⟩ = some (.string tv) ∧ w'.cell? ⟨w.heap.size, 3, none⟩ = some (.slice av lv.length cv) ∧ w'.cell? ⟨w.heap.size, 4, none⟩ = some (.slice bv dv.length ev) ∧ w'.cell? ⟨w.heap.size + 1, 0, none⟩ = some (.int .i64 kx) ∧ w'.cell? ⟨w.heap.size + 1, 1, none⟩ = some (.int .i64 nx) ∧ w'.cell? ⟨w.heap.size + 1, 2, none⟩ = some (.string tx) ∧ w'.cell? ⟨w.heap.size + 1, 3, none⟩ = some (.slice ax lx.length cx) ∧ w'.cell? ⟨w.heap.size + 1, 4, none⟩ = some (.slice bx dx.length ex)) (go_keep) (first | (go_at_call 28; refine (refWith_any (.mk kv nv tv av cv lv bv ev dv) (.mk kx nx tx ax cx lx bx ex dx) s _ OV.out OX.out OS.out (V.room.less _ (by omega) RV.out) ?_ ?_).mono ?_; (exact (HV.out.then_ ST.out.below).drew'); (exact (HX.out.then_ ST.out.below).drew'); rintro e w12 ⟨⟨ku, nu, tu, au, cu, lu, bu, eu, du⟩, rfl, vu, ou, b12'⟩; dsimp only [T.arg, T.cells]; have b12 : Below w11.heap.size w11 w12 := ⟨b12'.os, b12'.tape, b12'.output, b12'.size, b12'.block⟩; have VU := Lib.hid vu; have SU := Lib.hid (ST.out.own_add b12 ou); have z12 := b12.size; have fu0 : ∀ o, w12.cell? ⟨w5.heap.size, o, none⟩ = (#[.int .i64 kh, .int .i64 nh, .string th, .slice ah lh.length ch, .slice bh dh.length eh] : Array Value)[o]? := SU.out.cells m3; have fu1 : ∀ o, w12.cell? ⟨w.heap.size, o, none⟩ = (#[.int .i64 kv, .int .i64 nv, .string tv, .slice av lv.length cv, .slice bv dv.length ev] : Array Value)[o]? := SU.out.cells m8; have fu2 : ∀ o, w12.cell? ⟨w.heap.size + 1, o, none⟩ = (#[.int .i64 kx, .int .i64 nx, .string tx, .slice ax lx.length cx, .slice bx dx.length ex] : Array Value)[o]? := SU.out.cells m7; clear vu ou b12' b12) | (go_at_call 27; refine (same_any (.mk kh nh th ah ch lh bh eh dh) (.mk ku nu tu au cu lu bu eu du) _ (SU.out.own _ m4).1.ok (SU.out.own _ m0).1.ok ?_ ?_).mono ?_; (exact (SU.out.own _ m4).1.in_); (exact (SU.out.own _ m0).1.in_); rintro e w13 ⟨rfl, b13⟩; have SV := Lib.hid (SU.out.then_ b13); have z13 := b13.size; have fy0 : ∀ o, w13.cell? ⟨w5.heap.size, o, none⟩ = (#[.int .i64 kh, .int .i64 nh, .string th, .slice ah lh.length ch, .slice bh dh.length eh] : Array Value)[o]? := SV.out.cells m3; have fy1 : ∀ o, w13.cell? ⟨w.heap.size, o, none⟩ = (#[.int .i64 kv, .int .i64 nv, .string tv, .slice av lv.length cv, .slice bv dv.length ev] : Array Value)[o]? := SV.out.cells m8; have fy2 : ∀ o, w13.cell? ⟨w.heap.size + 1, o, none⟩ = (#[.int .i64 kx, .int .i64 nx, .string tx, .slice ax lx.length cx, .slice bx dx.length ex] : Array Value)[o]? := SV.out.cells m7; clear b13 fu0 fu1 fu2))
  rw [same_self (show (T.mk kh nh th ah ch lh bh eh dh).val = (T.mk ku nu tu au cu lu bu eu du).val by rw [VH.out, VU.out, VI.out, VQ.out])]
  replace ST := Lib.hid (SV.out.sub (ow' := [_, _, _, _, _]) (fun _ h => h) (fun _ h => List.mem_cons_of_mem _ h) all_nil)
  clear SU SV fy0 fy1 fy2
  have fj : ∀ o, w13.cell? ⟨w6.heap.size, o, none⟩ = (#[.int .i64 kj, .int .i64 nj, .string tj, .slice aj lj.length cj, .slice bj dj.length ej] : Array Value)[o]? := ST.out.cells m2
  have fv : ∀ o, w13.cell? ⟨w.heap.size, o, none⟩ = (#[.int .i64 kv, .int .i64 nv, .string tv, .slice av lv.length cv, .slice bv dv.length ev] : Array Value)[o]? := ST.out.cells m8
  go_wp2_with fail
  go_region_held3 (fun w' => w'.cell? ⟨w6.heap.size, 0, none⟩ = some (.int .i64 kj) ∧ w'.cell? ⟨w6.heap.size, 1, none⟩ = some (.int .i64 nj) ∧ w'.cell? ⟨w6.heap.size, 2, none⟩ = some (.string tj) ∧ w'.cell? ⟨w6.heap.size, 3, none⟩ = some (.slice aj lj.length cj) ∧ w'.cell? ⟨w6.heap.size, 4, none⟩ = some (.slice bj dj.length ej) ∧ w'.cell? ⟨w.heap.size, 0, none⟩ = some (.int .i64 kv) ∧ w'.cell? ⟨w.heap.size, 1, none⟩ = some (.int .i64 nv) ∧ w'.cell? ⟨w.heap.size, 2, none⟩ = some (.string tv) ∧ w'.cell? ⟨w.heap.size, 3, none⟩ = some (.slice av lv.length cv) ∧ w'.cell? ⟨w.heap.size, 4, none⟩ = some (.slice bv dv.length ev)) (go_keep) (first | (go_at_call 29; refine (refWithout_any (.mk kv nv tv av cv lv bv ev dv) s _ OV.out ?_).mono ?_; (exact (HV.out.then_ ST.out.below).drew'); rintro e w14 ⟨⟨kf, nf, tf, af, cf, lf, bf, ef, df⟩, rfl, vf, of, b14'⟩; dsimp only [T.arg, T.cells]; have b14 : Below w13.heap.size w13 w14 := ⟨b14'.os, b14'.tape, b14'.output, b14'.size, b14'.block⟩; have VF := Lib.hid vf; have SU := Lib.hid (ST.out.own_add b14 of); have z14 := b14.size; have fu0 : ∀ o, w14.cell? ⟨w6.heap.size, o, none⟩ = (#[.int .i64 kj, .int .i64 nj, .string tj, .slice aj lj.length cj, .slice bj dj.length ej] : Array Value)[o]? := SU.out.cells m2; have fu1 : ∀ o, w14.cell? ⟨w.heap.size, o, none⟩ = (#[.int .i64 kv, .int .i64 nv, .string tv, .slice av lv.length cv, .slice bv dv.length ev] : Array Value)[o]? := SU.out.cells m8; clear vf of b14' b14) | (go_at_call 27; refine (same_any (.mk kj nj tj aj cj lj bj ej dj) (.mk kf nf tf af cf lf bf ef df) _ (SU.out.own _ m3).1.ok (SU.out.own _ m0).1.ok ?_ ?_).mono ?_; (exact (SU.out.own _ m3).1.in_); (exact (SU.out.own _ m0).1.in_); rintro e w15 ⟨rfl, b15⟩; have SV := Lib.hid (SU.out.then_ b15); have z15 := b15.size; have fy0 : ∀ o, w15.cell? ⟨w6.heap.size, o, none⟩ = (#[.int .i64 kj, .int .i64 nj, .string tj, .slice aj lj.length cj, .slice bj dj.length ej] : Array Value)[o]? := SV.out.cells m2; have fy1 : ∀ o, w15.cell? ⟨w.heap.size, o, none⟩ = (#[.int .i64 kv, .int .i64 nv, .string tv, .slice av lv.length cv, .slice bv dv.length ev] : Array Value)[o]? := SV.out.cells m8; clear b15 fu0 fu1))
  rw [same_self (show (T.mk kj nj tj aj cj lj bj ej dj).val = (T.mk kf nf tf af cf lf bf ef df).val by rw [VJ.out, VF.out, VI.out])]
  replace ST := Lib.hid (SV.out.sub (ow' := [_, _, _, _, _]) (fun _ h => h) (fun _ h => List.mem_cons_of_mem _ h) all_nil)
  clear SU SV fy0 fy1
  have fs : ∀ o, w15.cell? ⟨w5.heap.size, o, none⟩ = (#[.int .i64 kh, .int .i64 nh, .string th, .slice ah lh.length ch, .slice bh dh.length eh] : Array Value)[o]? := ST.out.cells m3
  go_wp2_with fail
  refine (spoil_any (.mk kh nh th ah ch lh bh eh dh) _ ((ST.out.own _ m3).1.keep (Only.refl [] _) (by simp) (Nat.zero_le _)) (by rw [VH.out]; exact withV_room (by omega) (V.room.less _ (by omega) RI.out) (by rw [VQ.out]; exact V.room.less _ (by omega) RX.out))).mono ?_
  rintro e w16 ⟨rfl, o16⟩
  have z16 := o16.size
  replace ST := Lib.hid ((ST.out.sub (ow' := [_, _, _, _]) (fun _ h => h) (all_cons m0 (all_cons m1 (all_cons m2 (all_cons m4 (all_nil))))) all_nil).only _ _ o16 (ST.out.rangeO m3) (by omega) (by repeat' first | exact all_nil | refine all_cons (by dsimp only; omega) ?_) (by repeat' first | exact all_nil | refine all_cons (by dsimp only; omega) ?_) all_nil)
  clear o16 fs
  have fs : ∀ o, w16.cell? ⟨w4.heap.size, o, none⟩ = (#[.int .i64 kg, .int .i64 ng, .string tg, .slice ag lg.length cg, .slice bg dg.length eg] : Array Value)[o]? := ST.out.cells m4
  go_wp2_with fail
  refine (spoil_any (.mk kg ng tg ag cg lg bg eg dg) _ ((ST.out.own _ m3).1.keep (Only.refl [] _) (by simp) (Nat.zero_le _)) (by rw [VG.out]; exact getV_room (by omega) (V.room.less _ (by omega) RI.out))).mono ?_
  rintro e w17 ⟨rfl, o17⟩
  have z17 := o17.size
  replace ST := Lib.hid ((ST.out.sub (ow' := [_, _, _]) (fun _ h => h) (all_cons m0 (all_cons m1 (all_cons m2 (all_nil)))) all_nil).only _ _ o17 (ST.out.rangeO m3) (by omega) (by repeat' first | exact all_nil | refine all_cons (by dsimp only; omega) ?_) (by repeat' first | exact all_nil | refine all_cons (by dsimp only; omega) ?_) all_nil)
  clear o17 fs
  have fs : ∀ o, w17.cell? ⟨w6.heap.size, o, none⟩ = (#[.int .i64 kj, .int .i64 nj, .string tj, .slice aj lj.length cj, .slice bj dj.length ej] : Array Value)[o]? := ST.out.cells m2
  go_wp2_with fail
  refine (spoil_any (.mk kj nj tj aj cj lj bj ej dj) _ ((ST.out.own _ m2).1.keep (Only.refl [] _) (by simp) (Nat.zero_le _)) (by rw [VJ.out]; exact withoutV_room (by omega) (V.room.less _ (by omega) RI.out))).mono ?_
  rintro e w18 ⟨rfl, o18⟩
  have z18 := o18.size
  replace ST := Lib.hid ((ST.out.sub (ow' := [_, _]) (fun _ h => h) (all_cons m0 (all_cons m1 (all_nil))) all_nil).only _ _ o18 (ST.out.rangeO m2) (by omega) (by repeat' first | exact all_nil | refine all_cons (by dsimp only; omega) ?_) (by repeat' first | exact all_nil | refine all_cons (by dsimp only; omega) ?_) all_nil)
  clear o18 fs
  have fm : ∀ o, w18.cell? ⟨w7.heap.size, o, none⟩ = (#[.int .i64 km, .int .i64 nm, .string tm, .slice am lm.length cm, .slice bm dm.length em] : Array Value)[o]? := ST.out.cells m1
  have fv : ∀ o, w18.cell? ⟨w.heap.size, o, none⟩ = (#[.int .i64 kv, .int .i64 nv, .string tv, .slice av lv.length cv, .slice bv dv.length ev] : Array Value)[o]? := ST.out.cells m8
  have fx : ∀ o, w18.cell? ⟨w.heap.size + 1, o, none⟩ = (#[.int .i64 kx, .int .i64 nx, .string tx, .slice ax lx.length cx, .slice bx dx.length ex] : Array Value)[o]? := ST.out.cells m7
  go_wp2_with fail
  go_region_held3 (fun w' => w'.cell? ⟨w7.heap.size, 0, none⟩ = some (.int .i64 km) ∧ w'.cell? ⟨w7.heap.size, 1, none⟩ = some (.int .i64 nm) ∧ w'.cell? ⟨w7.heap.size, 2, none⟩ = some (.string tm) ∧ w'.cell? ⟨w7.heap.size, 3, none⟩ = some (.slice am lm.length cm) ∧ w'.cell? ⟨w7.heap.size, 4, none⟩ = some (.slice bm dm.length em) ∧ w'.cell? ⟨w.heap.size, 0, none⟩ = some (.int .i64 kv) ∧ w'.cell? ⟨w.heap.size, 1, none⟩ = some (.int .i64 nv) ∧ w'.cell? ⟨w.heap.size, 2, none⟩ = some (.string tv) ∧ w'.cell? ⟨w.heap.size, 3, none⟩ = some (.slice av lv.length cv) ∧ w'.cell? ⟨w.heap.size, 4, none⟩ = some (.slice bv dv.length ev) ∧ w'.cell? ⟨w.heap.size + 1, 0, none⟩ = some (.int .i64 kx) ∧ w'.cell? ⟨w.heap.size + 1, 1, none⟩ = some (.int .i64 nx) ∧ w'.cell? ⟨w.heap.size + 1, 2, none⟩ = some (.string tx) ∧ w'.cell? ⟨w.heap.size + 1, 3, none⟩ = some (.slice ax lx.length cx) ∧ w'.cell? ⟨w.heap.size + 1, 4, none⟩ = some (.slice bx dx.length ex)) (go_keep) (first | (go_at_call 28; refine (refWith_any (.mk kv nv tv av cv lv bv ev dv) (.mk kx nx tx ax cx lx bx ex dx) s _ OV.out OX.out OS.out (V.room.less _ (by omega) RV.out) ?_ ?_).mono ?_; (exact (HV.out.then_ ST.out.below).drew'); (exact (HX.out.then_ ST.out.below).drew'); rintro e w19 ⟨⟨kp, np, tp, ap, cp, lp, bp, ep, dp⟩, rfl, vp, op, b19'⟩; dsimp only [T.arg, T.cells]; have b19 : Below w18.heap.size w18 w19 := ⟨b19'.os, b19'.tape, b19'.output, b19'.size, b19'.block⟩; have VP := Lib.hid vp; have SU := Lib.hid (ST.out.own_add b19 op); have z19 := b19.size; have fu0 : ∀ o, w19.cell? ⟨w7.heap.size, o, none⟩ = (#[.int .i64 km, .int .i64 nm, .string tm, .slice am lm.length cm, .slice bm dm.length em] : Array Value)[o]? := SU.out.cells m1; have fu1 : ∀ o, w19.cell? ⟨w.heap.size, o, none⟩ = (#[.int .i64 kv, .int .i64 nv, .string tv, .slice av lv.length cv, .slice bv dv.length ev] : Array Value)[o]? := SU.out.cells m8; have fu2 : ∀ o, w19.cell? ⟨w.heap.size + 1, o, none⟩ = (#[.int .i64 kx, .int .i64 nx, .string tx, .slice ax lx.length cx, .slice bx dx.length ex] : Array Value)[o]? := SU.out.cells m7; clear vp op b19' b19) | (go_at_call 27; refine (same_any (.mk km nm tm am cm lm bm em dm) (.mk kp np tp ap cp lp bp ep dp) _ (SU.out.own _ m2).1.ok (SU.out.own _ m0).1.ok ?_ ?_).mono ?_; (exact (SU.out.own _ m2).1.in_); (exact (SU.out.own _ m0).1.in_); rintro e w20 ⟨rfl, b20⟩; have SV := Lib.hid (SU.out.then_ b20); have z20 := b20.size; have fy0 : ∀ o, w20.cell? ⟨w7.heap.size, o, none⟩ = (#[.int .i64 km, .int .i64 nm, .string tm, .slice am lm.length cm, .slice bm dm.length em] : Array Value)[o]? := SV.out.cells m1; have fy1 : ∀ o, w20.cell? ⟨w.heap.size, o, none⟩ = (#[.int .i64 kv, .int .i64 nv, .string tv, .slice av lv.length cv, .slice bv dv.length ev] : Array Value)[o]? := SV.out.cells m8; have fy2 : ∀ o, w20.cell? ⟨w.heap.size + 1, o, none⟩ = (#[.int .i64 kx, .int .i64 nx, .string tx, .slice ax lx.length cx, .slice bx dx.length ex] : Array Value)[o]? := SV.out.cells m7; clear b20 fu0 fu1 fu2))
  rw [same_self (show (T.mk km nm tm am cm lm bm em dm).val = (T.mk kp np tp ap cp lp bp ep dp).val by rw [VM.out, VP.out, VI.out, VQ.out])]
  have he : (isg == isg) = true := by simp
  have HB := Lib.hid SV.out.below
  clear SU SV ST fy0 fy1 fy2
  go_wp2_with fail
  go_ret
  exact ⟨ret_bool (by simp), HB.out⟩
end Go.Proofs.YtlmlehjfockkpaaDoor
