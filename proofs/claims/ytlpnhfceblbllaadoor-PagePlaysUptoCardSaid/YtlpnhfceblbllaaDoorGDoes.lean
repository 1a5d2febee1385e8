/- A step on both disks: the law's own 'does'. No statement is proved here. -/
import Derived.Test.YtlpnhfceblbllaaDoorGPp
import Derived.Test.YtlpnhfceblbllaaDoorJ7
import Derived.Test.YtlpnhfceblbllaaDoorNum
import Derived.Test.YtlpnhfceblbllaaDoorDOff
import Derived.Test.YtlpnhfceblbllaaDoorGLaw3
namespace Go.Proofs.YtlpnhfceblbllaaDoor
open Go.RowKit
set_option maxRecDepth 100000

/-- Where the law stands: both disks. -/
structure PSt (W w : World) (bx hx gx br gr N : Nat) (d : Dk) : Prop where
  box : BoxAt w bx gx d N
  hand : w.heap[hx]? = some (.cells #[.pointer (some ⟨gx, 0, none⟩)] 74)
  ref : RefAt w br gr d N
  bytes : d.allB
  below : Below W.heap.size W w
  wb : W.heap.size ≤ bx
  wr : W.heap.size ≤ br
theorem hand_TR {cur : Array Value} {fr : Nat × Nat} : ¬ TR (.cells cur 74 fr) := by
  show ¬ ((74 : Nat) = 77 ∨ (74 : Nat) = 85)
  decide
theorem op_TB {cur : Array Value} {fr : Nat × Nat} : ¬ TB (.cells cur 43 fr) := by
  show ¬ ((43 : Nat) = 72 ∨ (43 : Nat) = 95)
  decide
theorem op_TR {cur : Array Value} {fr : Nat × Nat} : ¬ TR (.cells cur 43 fr) := by
  show ¬ ((43 : Nat) = 77 ∨ (43 : Nat) = 85)
  decide
section
variable {W w w' : World} {bx hx gx br gr N N' : Nat} {d d' : Dk}
theorem PSt.then_ (s : PSt W w bx hx gx br gr N d) (hb : Below w.heap.size w w') : PSt W w' bx hx gx br gr N d :=
  { box := s.box.then_ hb, hand := (hb.block _ (lt_of_block s.hand)).trans s.hand, ref := s.ref.then_ hb, bytes := s.bytes, below := s.below.trans (hb.mono s.below.size), wb := s.wb, wr := s.wr }
theorem PSt.size (s : PSt W w bx hx gx br gr N d) : bx ≤ w.heap.size ∧ br ≤ w.heap.size := by
  have h1 := s.box.lt
  have h2 := s.ref.lt
  have h3 : bx ≤ gx := h1.1
  omega
/-- First the one disk, then the other. -/
theorem PSt.both (s : PSt W w bx hx gx br gr N d) {w1 w2 w3 : World} (ht : Turns TB bx w w1) (hb : BoxAt w1 bx gx d' N') (h12 : Below w1.heap.size w1 w2) (tr : Turns TR br w2 w3) (hr : RefAt w3 br gr d' N') (ha : d'.allB) : PSt W w3 bx hx gx br gr N' d' :=
  { box := (hb.then_ h12).turnsR tr
    hand := tr.block _ _ ((h12.block _ (lt_of_block (ht.block _ _ s.hand hand_TB))).trans (ht.block _ _ s.hand hand_TB)) hand_TR
    ref := hr
    bytes := ha
    below := ((s.below.trans (ht.below.mono s.wb)).trans (h12.mono (Nat.le_trans s.below.size ht.size))).trans (tr.below.mono s.wr)
    wb := s.wb
    wr := s.wr }
end
theorem Turns.only {T : Obj → Prop} {B y : Nat} {a b c : World} (h : Turns T B a b) (ho : Only [y] b c) (hy : a.heap.size ≤ y) (hB : B ≤ a.heap.size) : Turns T B a c :=
  ⟨⟨ho.os.trans h.below.os, ho.tape.trans h.below.tape, ho.output.trans h.below.output, Nat.le_trans h.size ho.size, fun k hk => (ho.block k (by have := h.size; omega) (by simp; omega)).trans (h.below.block k hk)⟩,
    fun i o e n => by
      have h1 := h.block i o e n
      have := lt_of_block e
      exact (ho.block i (lt_of_block h1) (by simp; omega)).trans h1⟩
theorem op_cells {w : World} {g : Nat} {o : OpD} (h : w.heap[g]? = some (.cells #[.int .i64 o.act, .int .i64 o.n, .int .i64 o.kind, .slice o.ba o.bl.length o.bc, .bool o.more, .slice o.ka o.kl.length o.kc] 43)) :
    w.cell? ⟨g, 1, none⟩ = some (.int .i64 o.n) ∧ w.cell? ⟨g, 2, none⟩ = some (.int .i64 o.kind) ∧ w.cell? ⟨g, 3, none⟩ = some (.slice o.ba o.bl.length o.bc) ∧ w.cell? ⟨g, 4, none⟩ = some (.bool o.more) ∧ w.cell? ⟨g, 5, none⟩ = some (.slice o.ka o.kl.length o.kc) :=
  ⟨row_cells h 1, row_cells h 2, row_cells h 3, row_cells h 4, row_cells h 5⟩
theorem ErrT.then_ {W w : World} (h : ErrT W) (hb : Below W.heap.size W w) : ErrT w := (hb.cell (p := ⟨0, 0, none⟩) (cell_lt h)).trans h
set_option maxHeartbeats 8000000 in
theorem does_any {W : World} (P : P12 W) (hE : ErrT W) (hx gx gr bx br N : Nat) (d : Dk) (w : World) (s : PSt W w bx hx gx br gr N d) (o : OpD) (ho : o.In W) (hN : N + 9 ≤ 549755813887) :
    Calls Tryd.prog 18 #[.pointer (some ⟨hx, 0, none⟩), .pointer (some ⟨gr, 0, none⟩), .agg #[.int .i64 o.act, .int .i64 o.n, .int .i64 o.kind, .slice o.ba o.bl.length o.bc, .bool o.more, .slice o.ka o.kl.length o.kc]] w fun e w' => e = .returned (.bool true) ∧ ∃ d', d'.many = d.many ∧ PSt W w' bx hx gx br gr (N + 9) d' := by
  have HP := Lib.hid (And.intro P hE)
  have HS := Lib.hid s
  have HO := Lib.hid ho
  obtain ⟨X, hX⟩ : ∃ X : Obj, X = .cells #[.int .i64 o.act, .int .i64 o.n, .int .i64 o.kind, .slice o.ba o.bl.length o.bc, .bool o.more, .slice o.ka o.kl.length o.kc] 43 := ⟨_, rfl⟩
  have HS1 := Lib.hid (s.then_ (below1 w X))
  have HX1 := Lib.hid (heap_alloc_new w X)
  rw [hX] at HS1 HX1
  clear P hE s ho hX
  by_cases a0 : o.act = 0
  · have e0 : (o.act == 0) = true := by simp [a0]
    clear a0
    have hbl := HO.out.bLen
    have hsz := HS1.out.size
    have HLE := Lib.hid (slent_any o.ba o.bc o.bl.length o.bl (w.alloc (.cells #[.int .i64 o.act, .int .i64 o.n, .int .i64 o.kind, .slice o.ba o.bl.length o.bc, .bool o.more, .slice o.ka o.kl.length o.kc] 43)) (HO.out.inB.then_ HS1.out.below) HO.out.nil' rfl (by omega))
    go_enter Tryd.func18, Tryd.ntmps18
    go_wp2_with fail
    refine HLE.out.mono ?_
    rintro e w2 ⟨rfl, hol, hb2⟩
    have hgL : (w.alloc (.cells #[.int .i64 o.act, .int .i64 o.n, .int .i64 o.kind, .slice o.ba o.bl.length o.bc, .bool o.more, .slice o.ka o.kl.length o.kc] 43)).heap.size = w.heap.size + 1 := by simp
    rw [hgL] at hol ⊢
    have H2 := Lib.hid (And.intro hol (And.intro hb2 (HS1.out.then_ hb2)))
    have HBL := Lib.hid ((HS1.out.box.off (some (w.heap.size + 1)) (fun y e => by cases e; exact Nat.le_of_eq hgL)).then_ hb2)
    have HX2 := Lib.hid ((hb2.block _ (lt_of_block HX1.out)).trans HX1.out)
    clear hol hb2
    obtain ⟨wd, hwd⟩ : ∃ wd, wd = w2.drew.alloc (.cells #[.pointer (some ⟨gx, 0, none⟩)] 88) := ⟨_, rfl⟩
    have HDK := Lib.hid (disk_any hx gx w2.drew (row_cells H2.out.2.2.hand 0))
    rw [← hwd] at HDK
    have hbd : Below w2.heap.size w2 wd := by rw [hwd]; exact ((Below.refl _ w2).drew).alloc (Nat.le_refl _) _
    have hdd : wd.heap[w2.heap.size]? = some (.cells #[.pointer (some ⟨gx, 0, none⟩)] 88) := by rw [hwd]; exact heap_alloc_new w2.drew _
    have hlt2 : w.heap.size + 1 < w2.heap.size := (H2.out.1.block _ rfl).2
    have HD := Lib.hid (And.intro hbd (And.intro (H2.out.2.2.then_ hbd) (H2.out.1.then_ hbd)))
    have HWR := Lib.hid (pw_any HP.out.1 w2.heap.size gx o.n o.kind (some ⟨w.heap.size + 1, 0, none⟩) o.bl.length (o.bl.length + 3) o.bl wd ⟨bx, some (w.heap.size + 1)⟩ N d HD.out.2.1.below HO.out.n HO.out.kind hdd (HBL.out.then_ hbd) HD.out.2.2.inB.prefix_ HO.out.byte rfl (by omega) (Nat.le_trans (show o.bl.length + 3 ≤ 140737488355328 by omega) (by decide)) (fun e => by cases e) (by omega) (fun y e => by cases e; have := hbd.size; omega))
    obtain ⟨er, her⟩ : ∃ er, er = (d.pwr o.n o.kind o.bl).1 := ⟨_, rfl⟩
    obtain ⟨d2, hd2⟩ : ∃ d2, d2 = (d.pwr o.n o.kind o.bl).2 := ⟨_, rfl⟩
    rw [← her, ← hd2] at HWR
    have HER := Lib.hid (And.intro her hd2)
    clear her hd2
    have HXd := Lib.hid ((hbd.block _ (lt_of_block HX2.out)).trans HX2.out)
    obtain ⟨x1, x2, x3, x4, x5⟩ := op_cells HX2.out
    obtain ⟨k1, k2, k3, k4, k5⟩ := op_cells HXd.out
    clear hwd hdd hbd x3 x4 x5 k3 k4 k5
    go_wp2_with fail
    go_region_held3 (fun w' => w'.cell? ⟨w.heap.size, 1, none⟩ = some (.int .i64 o.n) ∧ w'.cell? ⟨w.heap.size, 2, none⟩ = some (.int .i64 o.kind))
      (go_keep)
      (first
        | (go_at_call 22; refine HDK.out.mono ?_; rintro e wx ⟨rfl, rfl⟩)
        | (go_at_call 24; refine HWR.out.mono ?_; rintro e w5 ⟨rfl, hbx, htu⟩; have H5 := Lib.hid (And.intro hbx htu); have HX5 := Lib.hid (htu.block _ _ HXd.out op_TB); have k1 := (op_cells HX5.out).1; have k2 := (op_cells HX5.out).2.1; clear hbx htu))
    have k3 := (op_cells HX5.out).2.2.1
    have HOW := Lib.hid (HD.out.2.2.turned H5.out.2 (fun cur => TB_byte cur (0, 0)))
    have HBW := Lib.hid (HD.out.2.1.below.trans (H5.out.2.below.mono HS1.out.wb))
    have HBK := Lib.hid (sback_any (w.heap.size + 1) (w.heap.size + 1) o.ba o.bc o.bl.length o.bl w5 HOW.out (HO.out.inB.then_ HBW.out) (fun b oo e h => by have := HO.out.inB.lowB b oo e h; have := HS1.out.below.size; omega) rfl (by omega))
    go_wp2_with fail
    refine HBK.out.mono ?_
    rintro e w6 ⟨rfl, hon⟩
    have HT6 := Lib.hid ((((Turns.of_below (T := TB) (B := bx) hsz.1 H2.out.2.1).trans (Turns.of_below (Nat.le_trans hsz.1 H2.out.2.1.size) HD.out.1)).trans H5.out.2).only hon (Nat.le_of_eq hgL) hsz.1)
    have HB6 := Lib.hid (show BoxAt w6 bx gx d2 (N + 8) from BoxAt.only (B := ⟨bx, none⟩) H5.out.1 (fun k hk hne => hon.block k hk (by simp; exact hne)) (HOW.out.blockT _ rfl))
    have HX6 := Lib.hid (HT6.out.block _ _ HX1.out op_TB)
    have HR6 := Lib.hid (HS1.out.ref.turnsB HT6.out)
    have HW6 := Lib.hid (HS1.out.below.trans (HT6.out.below.mono HS1.out.wb))
    have HNU := Lib.hid (number_any er w6.drew (HP.out.2.then_ (HW6.out.trans (Below.refl _ w6).drew)))
    have HRW : Hid (∀ w7, Below w6.heap.size w6 w7 → Calls Tryd.prog 36 #[.pointer (some ⟨gr, 0, none⟩), .int .i64 o.n, .int .i64 o.kind, .slice o.ba o.bl.length o.bc] w7 fun e w' => e = .returned (.int .i64 er) ∧ RefAt w' br gr d2 (N + 8) ∧ Turns TR br w7 w') := Lib.hid (fun w7 hb => by
      have h := rpw_any gr o.n o.kind o.ba o.bl.length o.bc o.bl w7 br N d HO.out.n HO.out.kind (HR6.out.then_ hb) (HO.out.inB.then_ (HW6.out.trans (hb.mono HW6.out.size))) HO.out.byte rfl HO.out.nil' (by omega)
      rw [← HER.out.1, ← HER.out.2] at h
      exact h)
    obtain ⟨y1, y2, y3, y4, y5⟩ := op_cells HX6.out
    have HMN : Hid (d2.many = d.many) := Lib.hid (by rw [HER.out.2]; exact d.pwr_many _ _ _)
    have HAB : Hid d2.allB := Lib.hid (by rw [HER.out.2]; exact HS1.out.bytes.pwr o.n o.kind HO.out.byte)
    clear hon k1 k2 k3 x1 x2
    go_wp2_with fail
    go_region_held3 (fun w' => w'.cell? ⟨w.heap.size, 1, none⟩ = some (.int .i64 o.n) ∧ w'.cell? ⟨w.heap.size, 2, none⟩ = some (.int .i64 o.kind) ∧ w'.cell? ⟨w.heap.size, 3, none⟩ = some (.slice o.ba o.bl.length o.bc))
      (go_keep)
      (first
        | (go_at_call 35; refine HNU.out.mono ?_; rintro e w7 ⟨rfl, hb7⟩; have H7 := Lib.hid ((Below.refl w6.heap.size w6).drew.trans hb7); have HX7 := Lib.hid ((H7.out.block _ (lt_of_block HX6.out)).trans HX6.out); have y1 := (op_cells HX7.out).1; have y2 := (op_cells HX7.out).2.1; have y3 := (op_cells HX7.out).2.2.1; clear hb7)
        | (go_at_call 36; have := H7; refine (HRW.out _ H7.out).mono ?_; rintro e w8 ⟨rfl, hr8, ht8⟩; have H8 := Lib.hid (And.intro hr8 ht8); have HX8 := Lib.hid (ht8.block _ _ HX7.out op_TR); have y1 := (op_cells HX8.out).1; have y2 := (op_cells HX8.out).2.1; have y3 := (op_cells HX8.out).2.2.1; clear hr8 ht8))
    have HF := Lib.hid (HS1.out.both (N' := N + 9) HT6.out (HB6.out.more (by omega)) H7.out H8.out.2 (H8.out.1.more (by omega)) HAB.out)
    go_wp2_with fail
    go_ret
    exact ⟨by simp, _, HMN.out, HF.out⟩
  by_cases a1 : o.act = 1
  · have e1 : (o.act == 1) = true := by simp [a1]
    have q0 : (o.act == 0) = false := by simp [a0]
    clear a0 a1
    obtain ⟨wb, hwb⟩ : ∃ wb, wb = w.alloc (.cells #[.int .i64 o.act, .int .i64 o.n, .int .i64 o.kind, .slice o.ba o.bl.length o.bc, .bool o.more, .slice o.ka o.kl.length o.kc] 43) := ⟨_, rfl⟩
    obtain ⟨wd, hwd⟩ : ∃ wd, wd = (w.alloc (.cells #[.int .i64 o.act, .int .i64 o.n, .int .i64 o.kind, .slice o.ba o.bl.length o.bc, .bool o.more, .slice o.ka o.kl.length o.kc] 43)).drew.alloc (.cells #[.pointer (some ⟨gx, 0, none⟩)] 88) := ⟨_, rfl⟩
    have HDK := Lib.hid (disk_any hx gx (w.alloc (.cells #[.int .i64 o.act, .int .i64 o.n, .int .i64 o.kind, .slice o.ba o.bl.length o.bc, .bool o.more, .slice o.ka o.kl.length o.kc] 43)).drew (row_cells HS1.out.hand 0))
    rw [← hwd] at HDK
    have hbd : Below (w.alloc (.cells #[.int .i64 o.act, .int .i64 o.n, .int .i64 o.kind, .slice o.ba o.bl.length o.bc, .bool o.more, .slice o.ka o.kl.length o.kc] 43)).heap.size (w.alloc (.cells #[.int .i64 o.act, .int .i64 o.n, .int .i64 o.kind, .slice o.ba o.bl.length o.bc, .bool o.more, .slice o.ka o.kl.length o.kc] 43)) wd := by rw [hwd]; exact ((Below.refl _ (w.alloc (.cells #[.int .i64 o.act, .int .i64 o.n, .int .i64 o.kind, .slice o.ba o.bl.length o.bc, .bool o.more, .slice o.ka o.kl.length o.kc] 43))).drew).alloc (Nat.le_refl _) _
    have hdd : wd.heap[w.heap.size + 1]? = some (.cells #[.pointer (some ⟨gx, 0, none⟩)] 88) := by rw [hwd]; exact heap_alloc_at _ _ _ (by simp)
    have HD := Lib.hid (And.intro hbd (HS1.out.then_ hbd))
    have HRD := Lib.hid (pr_any HP.out.1 (w.heap.size + 1) gx o.n wd bx N d HD.out.2.below HO.out.n hdd HD.out.2.box (HD.out.2.bytes.byte HD.out.2.ref.1))
    have HXd := Lib.hid ((hbd.block _ (lt_of_block HX1.out)).trans HX1.out)
    obtain ⟨d1, d2, d3, d4, d5⟩ := op_cells HXd.out
    clear hbd hdd hwd d2 d3 d4 d5 hwb
    go_enter Tryd.func18, Tryd.ntmps18
    go_wp2_with fail
    go_region_held3 (fun w' => w'.cell? ⟨w.heap.size, 1, none⟩ = some (.int .i64 o.n))
      (go_keep)
      (first
        | (go_at_call 22; refine HDK.out.mono ?_; rintro e wx ⟨rfl, rfl⟩)
        | (go_at_call 25; refine HRD.out.mono ?_; rintro e w5 ⟨v, rfl, hov, hb5⟩; have H5 := Lib.hid (And.intro hov (And.intro hb5 (HD.out.2.then_ hb5))); have HX5 := Lib.hid ((hb5.block _ (lt_of_block HXd.out)).trans HXd.out); have d1 := (op_cells HX5.out).1; clear hov hb5))
    have HR5 := Lib.hid (rpr_any gr o.n w5 br N d HO.out.n H5.out.2.2.ref (H5.out.2.2.bytes.byte H5.out.2.2.ref.1) (by omega))
    go_wp2_with fail
    refine HR5.out.mono ?_
    rintro e w6 ⟨u, rfl, hou, hb6⟩
    have H6 := Lib.hid (And.intro (H5.out.1.then_ hb6) (And.intro hou (H5.out.2.2.then_ hb6)))
    clear hou hb6
    obtain ⟨ax, cx, rfl, inx, nix, -⟩ := H6.out.1.shape
    obtain ⟨au, cu, rfl, inu, niu, -⟩ := H6.out.2.1.shape
    have s1 := run_str w6 ax _ cx _ rfl inx fun e => (nix e).2
    have s2 := run_str w6 au _ cu _ rfl inu fun e => (niu e).2
    have HN6 := Lib.hid (number_any (d.prE o.n) w6 (HP.out.2.then_ H6.out.2.2.below))
    clear inx inu nix niu
    go_wp2_with fail
    refine HN6.out.mono ?_
    rintro e w7 ⟨rfl, hb7⟩
    have HF := Lib.hid (H6.out.2.2.then_ hb7)
    clear hb7
    go_wp2_with fail
    go_ret
    have h := HF.out
    exact ⟨by simp, d, rfl, { h with box := h.box.more (by omega), ref := h.ref.more (by omega) }⟩
  by_cases a2 : o.act = 2
  · have e2 : (o.act == 2) = true := by simp [a2]
    have q0 : (o.act == 0) = false := by simp [a0]
    have q1 : (o.act == 1) = false := by simp [a1]
    clear a0 a1 a2
    go_enter Tryd.func18, Tryd.ntmps18
    go_wp2_with fail
    refine (disk_any hx gx _ (row_cells HS1.out.hand 0)).mono ?_
    rintro e wd ⟨rfl, hwd⟩
    have hsz := HS1.out.size
    have hbd : Below (w.alloc (.cells #[.int .i64 o.act, .int .i64 o.n, .int .i64 o.kind, .slice o.ba o.bl.length o.bc, .bool o.more, .slice o.ka o.kl.length o.kc] 43)).heap.size (w.alloc (.cells #[.int .i64 o.act, .int .i64 o.n, .int .i64 o.kind, .slice o.ba o.bl.length o.bc, .bool o.more, .slice o.ka o.kl.length o.kc] 43)) wd := by rw [hwd]; exact below1 _ _
    have hdd : wd.heap[w.heap.size + 1]? = some (.cells #[.pointer (some ⟨gx, 0, none⟩)] 88) := by rw [hwd]; exact heap_alloc_at _ _ _ (by simp)
    have HD := Lib.hid (And.intro hbd (HS1.out.then_ hbd))
    have HY := Lib.hid (dsync_any (w.heap.size + 1) gx wd bx N d hdd HD.out.2.box (by omega))
    clear hbd hdd hwd
    go_wp2_with fail
    refine HY.out.mono ?_
    rintro e w3 ⟨rfl, hb3, ht3⟩
    have H3 := Lib.hid (And.intro hb3 ((Turns.of_below hsz.1 HD.out.1).trans ht3))
    have HN3 := Lib.hid (number_any d.syncE w3 (HP.out.2.then_ (HS1.out.below.trans (H3.out.2.below.mono HS1.out.wb))))
    clear hb3 ht3
    go_wp2_with fail
    refine HN3.out.mono ?_
    rintro e w4 ⟨rfl, hb4⟩
    have H4 := Lib.hid hb4
    have HR4 := Lib.hid (rsync_any gr w4 br N d ((HS1.out.ref.turnsB H3.out.2).then_ hb4) (by omega))
    clear hb4
    go_wp2_with fail
    refine HR4.out.mono ?_
    rintro e w5 ⟨rfl, hb5, ht5⟩
    have HF := Lib.hid (HS1.out.both (N' := N + 9) H3.out.2 (H3.out.1.more (by omega)) H4.out ht5 (hb5.more (by omega)) HS1.out.bytes.sync)
    clear hb5 ht5
    go_wp2_with fail
    go_ret
    exact ⟨by simp, _, d.sync_many, HF.out⟩
  by_cases a3 : o.act = 3
  · have e3 : (o.act == 3) = true := by simp [a3]
    have q0 : (o.act == 0) = false := by simp [a0]
    have q1 : (o.act == 1) = false := by simp [a1]
    have q2 : (o.act == 2) = false := by simp [a2]
    clear a0 a1 a2 a3
    go_enter Tryd.func18, Tryd.ntmps18
    go_wp2_with fail
    refine (arm_any hx gx o.n o.more _ bx N d HO.out.n (row_cells HS1.out.hand 0) HS1.out.box).mono ?_
    rintro e w2 ⟨rfl, hb2, ht2⟩
    have HT2 := Lib.hid (And.intro hb2 ht2)
    have HX2 := Lib.hid (ht2.block _ _ HX1.out op_TB)
    obtain ⟨c1, c2, c3, c4, c5⟩ := op_cells HX2.out
    clear hb2 ht2
    go_wp2_with fail
    refine (rarm_any gr o.n o.more w2 br N d HO.out.n (HS1.out.ref.turnsB HT2.out.2)).mono ?_
    rintro e w3 ⟨rfl, hb3, ht3⟩
    have HF := Lib.hid (HS1.out.both (N' := N + 9) HT2.out.2 (HT2.out.1.more (by omega)) (Below.refl _ _) ht3 (hb3.more (by omega)) (HS1.out.bytes.arm o.n o.more))
    clear hb3 ht3
    go_wp2_with fail
    go_ret
    exact ⟨rfl, _, by first | rfl | exact d.plant_many _ _, HF.out⟩
  by_cases a4 : o.act = 4
  · have e4 : (o.act == 4) = true := by simp [a4]
    have q0 : (o.act == 0) = false := by simp [a0]
    have q1 : (o.act == 1) = false := by simp [a1]
    have q2 : (o.act == 2) = false := by simp [a2]
    have q3 : (o.act == 3) = false := by simp [a3]
    clear a0 a1 a2 a3 a4
    go_enter Tryd.func18, Tryd.ntmps18
    go_wp2_with fail
    refine (crash_any hx gx o.ka o.kl.length o.kc o.kl _ bx N d HS1.out.hand HS1.out.box (fun i x hx' => by
      obtain ⟨b, oo, e, hlt, hc⟩ := HO.out.inK i x hx'
      exact ⟨b, oo, e, Nat.lt_of_lt_of_le hlt HS1.out.wb, (HS1.out.below.cell (p := ⟨b, oo + i, none⟩) hlt).trans hc⟩) rfl (by have := HO.out.kLen; omega) (by omega)).mono ?_
    rintro e w2 ⟨rfl, hb2, ht2⟩
    have HT2 := Lib.hid (And.intro hb2 ht2)
    have HX2 := Lib.hid (ht2.block _ _ HX1.out op_TB)
    obtain ⟨c1, c2, c3, c4, c5⟩ := op_cells HX2.out
    clear hb2 ht2
    go_wp2_with fail
    refine (rcrash_any gr o.ka o.kl.length o.kc o.kl w2 br N d (HS1.out.ref.turnsB HT2.out.2) (fun i x hx' => by
      obtain ⟨b, oo, e, hlt, hc⟩ := HO.out.inK i x hx'
      exact ⟨b, oo, e, Nat.lt_of_lt_of_le hlt HS1.out.wr, ((HS1.out.below.trans (HT2.out.2.below.mono HS1.out.wb)).cell (p := ⟨b, oo + i, none⟩) hlt).trans hc⟩) rfl (by have := HO.out.kLen; omega) (by omega)).mono ?_
    rintro e w3 ⟨rfl, hb3, ht3⟩
    have HF := Lib.hid (HS1.out.both (N' := N + 9) HT2.out.2 (HT2.out.1.more (by omega)) (Below.refl _ _) ht3 (hb3.more (by omega)) (HS1.out.bytes.crash o.kl))
    clear hb3 ht3
    go_wp2_with fail
    go_ret
    exact ⟨rfl, _, by first | rfl | exact d.plant_many _ _, HF.out⟩
  by_cases a5 : o.act = 5
  · have e5 : (o.act == 5) = true := by simp [a5]
    have q0 : (o.act == 0) = false := by simp [a0]
    have q1 : (o.act == 1) = false := by simp [a1]
    have q2 : (o.act == 2) = false := by simp [a2]
    have q3 : (o.act == 3) = false := by simp [a3]
    have q4 : (o.act == 4) = false := by simp [a4]
    clear a0 a1 a2 a3 a4 a5
    go_enter Tryd.func18, Tryd.ntmps18
    go_wp2_with fail
    refine (plant_any hx gx o.n o.ba o.bl.length o.bc o.bl _ bx N d HO.out.n HS1.out.hand HS1.out.box (HO.out.inB.then_ HS1.out.below) rfl (by omega) (fun y e => by cases e)).mono ?_
    rintro e w2 ⟨rfl, hb2, ht2⟩
    have HT2 := Lib.hid (And.intro hb2 ht2)
    have HX2 := Lib.hid (ht2.block _ _ HX1.out op_TB)
    obtain ⟨c1, c2, c3, c4, c5⟩ := op_cells HX2.out
    clear hb2 ht2
    go_wp2_with fail
    refine (rplant_any gr o.n o.ba o.bl.length o.bc o.bl w2 br N d HO.out.n (HS1.out.ref.turnsB HT2.out.2) (HO.out.inB.then_ (HS1.out.below.trans (HT2.out.2.below.mono HS1.out.wb))) rfl (by omega)).mono ?_
    rintro e w3 ⟨rfl, hb3, ht3⟩
    have HF := Lib.hid (HS1.out.both (N' := N + 9) HT2.out.2 (HT2.out.1.more (by omega)) (Below.refl _ _) ht3 (hb3.more (by omega)) (HS1.out.bytes.plant o.n HO.out.byte))
    clear hb3 ht3
    go_wp2_with fail
    go_ret
    exact ⟨rfl, _, by first | rfl | exact d.plant_many _ _, HF.out⟩
  have q0 : (o.act == 0) = false := by simp [a0]
  have q1 : (o.act == 1) = false := by simp [a1]
  have q2 : (o.act == 2) = false := by simp [a2]
  have q3 : (o.act == 3) = false := by simp [a3]
  have q4 : (o.act == 4) = false := by simp [a4]
  have q5 : (o.act == 5) = false := by simp [a5]
  go_enter Tryd.func18, Tryd.ntmps18
  go_wp2_with fail
  go_ret
  refine ⟨rfl, d, rfl, ?_⟩
  have h := HS1.out
  exact { h with box := h.box.more (by omega), ref := h.ref.more (by omega) }
end Go.Proofs.YtlpnhfceblbllaaDoor
