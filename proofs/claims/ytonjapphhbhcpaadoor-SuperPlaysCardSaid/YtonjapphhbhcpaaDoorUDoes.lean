/- A step on both disks: layer 14's own 'does'. No statement is proved here. -/
import Derived.Test.YtonjapphhbhcpaaDoorJ22
import Derived.Test.YtonjapphhbhcpaaDoorUBrief
namespace Go.Proofs.YtonjapphhbhcpaaDoor
open Go.RowKit
set_option maxRecDepth 100000

set_option maxHeartbeats 8000000 in
theorem udoes_any {W : World} (D : P14D W) (hE : ErrT W) (hx gx gr bx br N : Nat) (d : Dk) (w : World) (s : QSt W w bx hx gx br gr N d) (o : OpU) (ho : o.In W) (hN : N + 9 ≤ 549755813887) :
    Calls Tryd.prog 21 #[.pointer (some ⟨hx, 0, none⟩), .pointer (some ⟨gr, 0, none⟩), .agg #[.int .i64 o.act, .int .i64 o.n, .int .i64 o.s.ver, .int .i64 o.s.root, .int .i64 o.s.ep, .int .i64 o.s.pag, .slice o.ba o.bl.length o.bc, .bool o.more, .slice o.ka o.kl.length o.kc]] w fun e w' => e = .returned (.bool true) ∧ ∃ d', d'.many = d.many ∧ (d.brief → d'.brief) ∧ QSt W w' bx hx gx br gr (N + 9) d' := by
  have HP := Lib.hid (And.intro D hE)
  have HS := Lib.hid s
  have HO := Lib.hid ho
  obtain ⟨X, hX⟩ : ∃ X : Obj, X = .cells #[.int .i64 o.act, .int .i64 o.n, .int .i64 o.s.ver, .int .i64 o.s.root, .int .i64 o.s.ep, .int .i64 o.s.pag, .slice o.ba o.bl.length o.bc, .bool o.more, .slice o.ka o.kl.length o.kc] 45 := ⟨_, rfl⟩
  have HS1 := Lib.hid (s.then_ (below1 w X))
  have HX1 := Lib.hid (heap_alloc_new w X)
  rw [hX] at HS1 HX1
  clear D hE s ho hX
  by_cases a0 : o.act = 0
  · have e0 : (o.act == 0) = true := by simp [a0]
    clear a0
    go_enter Tryd.func21, Tryd.ntmps21
    go_wp2_with fail
    have hbw := below1 w (.cells #[.int .i64 o.act, .int .i64 o.n, .int .i64 o.s.ver, .int .i64 o.s.root, .int .i64 o.s.ep, .int .i64 o.s.pag, .slice o.ba o.bl.length o.bc, .bool o.more, .slice o.ka o.kl.length o.kc] 45)
    have hW1 := hbw.size
    generalize w.alloc (.cells #[.int .i64 o.act, .int .i64 o.n, .int .i64 o.s.ver, .int .i64 o.s.root, .int .i64 o.s.ep, .int .i64 o.s.pag, .slice o.ba o.bl.length o.bc, .bool o.more, .slice o.ka o.kl.length o.kc] 45) = w1 at *
    obtain ⟨wd, hwd⟩ : ∃ wd, wd = w1.drew.alloc (.cells #[.pointer (some ⟨gx, 0, none⟩)] 93) := ⟨_, rfl⟩
    have HDK := Lib.hid (disk_any hx gx w1.drew (row_cells HS1.out.hand 0))
    rw [← hwd] at HDK
    have hbd : Below w1.heap.size w1 wd := by rw [hwd]; exact ((Below.refl _ w1).drew).alloc (Nat.le_refl _) _
    have hdd : wd.heap[w1.heap.size]? = some (.cells #[.pointer (some ⟨gx, 0, none⟩)] 93) := by rw [hwd]; exact heap_alloc_new w1.drew _
    have HD := Lib.hid (And.intro hbd (HS1.out.then_ hbd))
    have HXd := Lib.hid ((hbd.block _ (lt_of_block HX1.out)).trans HX1.out)
    have HWR := Lib.hid (HP.out.1.write w1.heap.size gx o.s wd bx N d HD.out.2.below HO.out.s hdd HD.out.2.box (by omega) (fun y e => by cases e))
    unfold Sup.arg Sup.cells at HWR
    obtain ⟨er, her⟩ : ∃ er, er = (d.swr o.s).1 := ⟨_, rfl⟩
    obtain ⟨d2, hd2⟩ : ∃ d2, d2 = (d.swr o.s).2 := ⟨_, rfl⟩
    rw [← her, ← hd2] at HWR
    have HER := Lib.hid (And.intro her hd2)
    have kA := (opU_cells HX1.out).2
    have kD := (opU_cells HXd.out).2
    clear her hd2 hwd hdd hbd
    go_wp2_with fail
    go_region_held3 (fun w' => w'.cell? ⟨w.heap.size, 2, none⟩ = some (.int .i64 o.s.ver) ∧ w'.cell? ⟨w.heap.size, 3, none⟩ = some (.int .i64 o.s.root) ∧ w'.cell? ⟨w.heap.size, 4, none⟩ = some (.int .i64 o.s.ep) ∧ w'.cell? ⟨w.heap.size, 5, none⟩ = some (.int .i64 o.s.pag))
      (first
        | exact kA
        | exact kD
        | exact kE
        | go_keep)
      (first
        | (go_at_call 25; refine HDK.out.mono ?_; rintro e wx ⟨rfl, rfl⟩)
        | (go_at_call 24; refine HWR.out.mono ?_; rintro e w5 ⟨rfl, hbx, htu⟩; have H5 := Lib.hid (And.intro hbx htu); have HX5 := Lib.hid (htu.block _ _ HXd.out opU_TB); have kE := (opU_cells HX5.out).2; clear hbx htu))
    clear kA kD HWR HDK
    have hsz := HS1.out.size
    have HT5 := Lib.hid ((Turns.of_below (T := TB) hsz.1 HD.out.1).trans H5.out.2)
    have HR5 := Lib.hid (HS1.out.ref.turnsB HT5.out)
    have HW5 := Lib.hid (HS1.out.below.trans (HT5.out.below.mono HS1.out.wb))
    have HNU := Lib.hid (number_any er w5.drew (ErrTU.then_ HP.out.2 (HW5.out.trans (Below.refl _ w5).drew)))
    have HRW : Hid (∀ w7, Below w5.heap.size w5 w7 → Calls Tryd.prog 43 #[.pointer (some ⟨gr, 0, none⟩), .agg #[.int .i64 o.s.ver, .int .i64 o.s.root, .int .i64 o.s.ep, .int .i64 o.s.pag]] w7 fun e w' => e = .returned (.int .i64 er) ∧ RefAt w' br gr d2 (N + 8) ∧ Turns TR br w7 w') := Lib.hid (fun w7 hb => by
      have h := rswr_any gr o.s HO.out.s w7 br N d (HR5.out.then_ hb) (by omega)
      rw [← HER.out.1, ← HER.out.2] at h
      exact h)
    have HMN : Hid (d2.many = d.many) := Lib.hid (by rw [HER.out.2]; exact d.swr_many o.s)
    have HBR : Hid (d.brief → d2.brief) := Lib.hid (by rw [HER.out.2]; exact fun h => Dk.brief_swr h o.s)
    have HAB : Hid d2.allB := Lib.hid (by rw [HER.out.2]; exact HS1.out.bytes.swr o.s)
    go_wp2_with fail
    go_region_held3 (fun w' => w'.cell? ⟨w.heap.size, 2, none⟩ = some (.int .i64 o.s.ver) ∧ w'.cell? ⟨w.heap.size, 3, none⟩ = some (.int .i64 o.s.root) ∧ w'.cell? ⟨w.heap.size, 4, none⟩ = some (.int .i64 o.s.ep) ∧ w'.cell? ⟨w.heap.size, 5, none⟩ = some (.int .i64 o.s.pag))
      (first
        | exact kE
        | exact kF
        | exact kG
        | go_keep)
      (first
        | (go_at_call 42; refine HNU.out.mono ?_; rintro e w7 ⟨rfl, hb7⟩; have H7 := Lib.hid ((Below.refl w5.heap.size w5).drew.trans hb7); have HX7 := Lib.hid ((H7.out.block _ (lt_of_block HX5.out)).trans HX5.out); have kF := (opU_cells HX7.out).2; clear hb7)
        | (go_at_call 43; have := H7; refine (HRW.out _ H7.out).mono ?_; rintro e w8 ⟨rfl, hr8, ht8⟩; have H8 := Lib.hid (And.intro hr8 ht8); have HX8 := Lib.hid (ht8.block _ _ HX7.out opU_TR); have kG := (opU_cells HX8.out).2; clear hr8 ht8))
    have HF := Lib.hid (HS1.out.both (N' := N + 9) HT5.out (H5.out.1.more (by omega)) H7.out H8.out.2 (H8.out.1.more (by omega)) HAB.out)
    clear kE kF kG
    go_wp2_with fail
    go_ret
    exact ⟨by simp, _, HMN.out, HBR.out, HF.out⟩
  by_cases a1 : o.act = 1
  · have e1 : (o.act == 1) = true := by simp [a1]
    have q0 : (o.act == 0) = false := by simp [a0]
    clear a0 a1
    go_enter Tryd.func21, Tryd.ntmps21
    go_wp2_with fail
    refine (disk_any hx gx _ (row_cells HS1.out.hand 0)).mono ?_
    rintro e wd ⟨rfl, hwd⟩
    have hsz := HS1.out.size
    have hbd : Below (w.alloc (.cells #[.int .i64 o.act, .int .i64 o.n, .int .i64 o.s.ver, .int .i64 o.s.root, .int .i64 o.s.ep, .int .i64 o.s.pag, .slice o.ba o.bl.length o.bc, .bool o.more, .slice o.ka o.kl.length o.kc] 45)).heap.size (w.alloc (.cells #[.int .i64 o.act, .int .i64 o.n, .int .i64 o.s.ver, .int .i64 o.s.root, .int .i64 o.s.ep, .int .i64 o.s.pag, .slice o.ba o.bl.length o.bc, .bool o.more, .slice o.ka o.kl.length o.kc] 45)) wd := by rw [hwd]; exact below1 _ _
    have hdd : wd.heap[w.heap.size + 1]? = some (.cells #[.pointer (some ⟨gx, 0, none⟩)] 93) := by rw [hwd]; exact heap_alloc_at _ _ _ (by simp)
    have HD := Lib.hid (HS1.out.then_ hbd)
    have HRD := Lib.hid (HP.out.1.read (w.heap.size + 1) gx wd bx N d HD.out.below hdd HD.out.box (HD.out.bytes.byte HD.out.ref.1))
    have hrr := rsrd_any gr
    obtain ⟨r, hr⟩ : ∃ r, r = d.srS := ⟨_, rfl⟩
    obtain ⟨er, her⟩ : ∃ er, er = d.srE := ⟨_, rfl⟩
    rw [← hr, ← her] at HRD
    unfold Sup.arg Sup.cells at HRD
    have HRE := Lib.hid (And.intro hr her)
    clear hwd hdd hbd hr her hrr
    go_wp2_with fail
    refine HRD.out.mono ?_
    rintro e w5 ⟨rfl, b5⟩
    have b6 := below_then b5 (below1 w5 (.cells #[.int .i64 r.ver, .int .i64 r.root, .int .i64 r.ep, .int .i64 r.pag] 23))
    have H6 := Lib.hid (HD.out.then_ b6)
    have X6 := Lib.hid (heap_alloc_new w5 (.cells #[.int .i64 r.ver, .int .i64 r.root, .int .i64 r.ep, .int .i64 r.pag] 23))
    have HR6 := Lib.hid (rsrd_any gr _ br N d H6.out.ref (H6.out.bytes.byte H6.out.ref.1) (by omega))
    unfold SRdTo at HR6
    rw [← HRE.out.1, ← HRE.out.2] at HR6
    unfold Sup.arg Sup.cells at HR6
    clear b5 b6 HRD HD
    go_wp2_with fail
    refine HR6.out.mono ?_
    rintro e w7 ⟨rfl, b7⟩
    have b8 := below_then b7 (below1 w7 (.cells #[.int .i64 r.ver, .int .i64 r.root, .int .i64 r.ep, .int .i64 r.pag] 23))
    have H8 := Lib.hid (H6.out.then_ b8)
    obtain ⟨s0, s1, s2, s3⟩ := box4_cells (row_then X6.out b8)
    obtain ⟨t0, t1, t2, t3⟩ := box4_cells (heap_alloc_new w7 (.cells #[.int .i64 r.ver, .int .i64 r.root, .int .i64 r.ep, .int .i64 r.pag] 23))
    have hge := fun op x y a b W => sup_eqg op x y a b W
    have qe := fun W => sup_eql r.ver r.root r.ep r.pag r.ver r.root r.ep r.pag W
    simp only [and_self, decide_true] at qe
    have HN8 := Lib.hid (number_any er _ (ErrTU.then_ HP.out.2 H8.out.below))
    clear b7 b8 HR6 H6
    go_wp2_with fail
    refine HN8.out.mono ?_
    rintro e w9 ⟨rfl, hb9⟩
    have HF := Lib.hid (H8.out.then_ hb9)
    clear hb9
    go_wp2_with fail
    go_ret
    have h := HF.out
    exact ⟨by simp, d, rfl, fun k => k, { h with box := h.box.more (by omega), ref := h.ref.more (by omega) }⟩
  by_cases a2 : o.act = 2
  · have e2 : (o.act == 2) = true := by simp [a2]
    have q0 : (o.act == 0) = false := by simp [a0]
    have q1 : (o.act == 1) = false := by simp [a1]
    clear a0 a1 a2
    go_enter Tryd.func21, Tryd.ntmps21
    go_wp2_with fail
    refine (arm_any hx gx o.n o.more _ bx N d HO.out.n (row_cells HS1.out.hand 0) HS1.out.box).mono ?_
    rintro e w2 ⟨rfl, hb2, ht2⟩
    have HT2 := Lib.hid (And.intro hb2 ht2)
    have HX2 := Lib.hid (ht2.block _ _ HX1.out opU_TB)
    obtain ⟨⟨c1, c6, c7, c8⟩, -⟩ := opU_cells HX2.out
    clear hb2 ht2
    go_wp2_with fail
    refine (rarm_any gr o.n o.more w2 br N d HO.out.n (HS1.out.ref.turnsB HT2.out.2)).mono ?_
    rintro e w3 ⟨rfl, hb3, ht3⟩
    have HF := Lib.hid (HS1.out.both (N' := N + 9) HT2.out.2 (HT2.out.1.more (by omega)) (Below.refl _ _) ht3 (hb3.more (by omega)) (HS1.out.bytes.arm o.n o.more))
    clear hb3 ht3
    go_wp2_with fail
    go_ret
    exact ⟨rfl, _, by first | rfl | exact d.plant_many _ _, fun k => by first | exact Dk.brief_arm k _ _ | exact Dk.brief_crash _ _ | exact Dk.brief_plant k _ _, HF.out⟩
  by_cases a3 : o.act = 3
  · have e3 : (o.act == 3) = true := by simp [a3]
    have q0 : (o.act == 0) = false := by simp [a0]
    have q1 : (o.act == 1) = false := by simp [a1]
    have q2 : (o.act == 2) = false := by simp [a2]
    clear a0 a1 a2 a3
    go_enter Tryd.func21, Tryd.ntmps21
    go_wp2_with fail
    refine (crash_any hx gx o.ka o.kl.length o.kc o.kl _ bx N d HS1.out.hand HS1.out.box (fun i x hx' => by
      obtain ⟨b, oo, e, hlt, hc⟩ := HO.out.inK i x hx'
      exact ⟨b, oo, e, Nat.lt_of_lt_of_le hlt HS1.out.wb, (HS1.out.below.cell (p := ⟨b, oo + i, none⟩) hlt).trans hc⟩) rfl (by have := HO.out.kLen; omega) (by omega)).mono ?_
    rintro e w2 ⟨rfl, hb2, ht2⟩
    have HT2 := Lib.hid (And.intro hb2 ht2)
    have HX2 := Lib.hid (ht2.block _ _ HX1.out opU_TB)
    obtain ⟨⟨c1, c6, c7, c8⟩, -⟩ := opU_cells HX2.out
    clear hb2 ht2
    go_wp2_with fail
    refine (rcrash_any gr o.ka o.kl.length o.kc o.kl w2 br N d (HS1.out.ref.turnsB HT2.out.2) (fun i x hx' => by
      obtain ⟨b, oo, e, hlt, hc⟩ := HO.out.inK i x hx'
      exact ⟨b, oo, e, Nat.lt_of_lt_of_le hlt HS1.out.wr, ((HS1.out.below.trans (HT2.out.2.below.mono HS1.out.wb)).cell (p := ⟨b, oo + i, none⟩) hlt).trans hc⟩) rfl (by have := HO.out.kLen; omega) (by omega)).mono ?_
    rintro e w3 ⟨rfl, hb3, ht3⟩
    have HF := Lib.hid (HS1.out.both (N' := N + 9) HT2.out.2 (HT2.out.1.more (by omega)) (Below.refl _ _) ht3 (hb3.more (by omega)) (HS1.out.bytes.crash o.kl))
    clear hb3 ht3
    go_wp2_with fail
    go_ret
    exact ⟨rfl, _, by first | rfl | exact d.plant_many _ _, fun k => by first | exact Dk.brief_arm k _ _ | exact Dk.brief_crash _ _ | exact Dk.brief_plant k _ _, HF.out⟩
  by_cases a4 : o.act = 4
  · have e4 : (o.act == 4) = true := by simp [a4]
    have q0 : (o.act == 0) = false := by simp [a0]
    have q1 : (o.act == 1) = false := by simp [a1]
    have q2 : (o.act == 2) = false := by simp [a2]
    have q3 : (o.act == 3) = false := by simp [a3]
    clear a0 a1 a2 a3 a4
    go_enter Tryd.func21, Tryd.ntmps21
    go_wp2_with fail
    refine (plant_any hx gx o.n o.ba o.bl.length o.bc o.bl _ bx N d HO.out.n HS1.out.hand HS1.out.box (HO.out.inB.then_ HS1.out.below) rfl (by omega) (fun y e => by cases e)).mono ?_
    rintro e w2 ⟨rfl, hb2, ht2⟩
    have HT2 := Lib.hid (And.intro hb2 ht2)
    have HX2 := Lib.hid (ht2.block _ _ HX1.out opU_TB)
    obtain ⟨⟨c1, c6, c7, c8⟩, -⟩ := opU_cells HX2.out
    clear hb2 ht2
    go_wp2_with fail
    refine (rplant_any gr o.n o.ba o.bl.length o.bc o.bl w2 br N d HO.out.n (HS1.out.ref.turnsB HT2.out.2) (HO.out.inB.then_ (HS1.out.below.trans (HT2.out.2.below.mono HS1.out.wb))) rfl (by omega)).mono ?_
    rintro e w3 ⟨rfl, hb3, ht3⟩
    have HF := Lib.hid (HS1.out.both (N' := N + 9) HT2.out.2 (HT2.out.1.more (by omega)) (Below.refl _ _) ht3 (hb3.more (by omega)) (HS1.out.bytes.plant o.n HO.out.byte))
    clear hb3 ht3
    go_wp2_with fail
    go_ret
    exact ⟨rfl, _, by first | rfl | exact d.plant_many _ _, fun k => by first | exact Dk.brief_arm k _ _ | exact Dk.brief_crash _ _ | exact Dk.brief_plant k _ _, HF.out⟩
  have q0 : (o.act == 0) = false := by simp [a0]
  have q1 : (o.act == 1) = false := by simp [a1]
  have q2 : (o.act == 2) = false := by simp [a2]
  have q3 : (o.act == 3) = false := by simp [a3]
  have q4 : (o.act == 4) = false := by simp [a4]
  go_enter Tryd.func21, Tryd.ntmps21
  go_wp2_with fail
  go_ret
  refine ⟨rfl, d, rfl, fun k => k, ?_⟩
  have h := HS1.out
  exact { h with box := h.box.more (by omega), ref := h.ref.more (by omega) }
end Go.Proofs.YtonjapphhbhcpaaDoor
