/- Package block's reading calls: contracts. A call in a region that draws. A page's row, part by part. The program's put of a number into a part of a page. The program's Make of a page. The program's reading of a number, and of bytes that are 0. The program's Open of a page. No statement is proved here. -/
import Derived.Test.YtonjapphhbhcpaaDoorJ3
import Derived.Test.YtonjapphhbhcpaaDoorSLent
import Derived.Test.YtonjapphhbhcpaaDoorProg
import Derived.WalkKit
import Derived.Deep.RegionLaw
import Derived.Test.YtonjapphhbhcpaaDoorGRow
import Derived.Test.YtonjapphhbhcpaaDoorJ16
import Derived.Test.YtonjapphhbhcpaaDoorGEnv
namespace Go.Proofs.YtonjapphhbhcpaaDoor
open Go.RowKit
open Go.Maps (Keyed IsMap Tidy)
set_option maxRecDepth 100000

def zeroV (n : Nat) : List Value := List.replicate n (.int .u8 0)
theorem make_zero (n : Nat) (hn : n ≤ 140737488351232) (w : World) : (Instr.makeSlice 24 (.int .i64 (n : Int)) (.int .i64 (n : Int))).run Tryd.prog w = .ok (.slice (some ⟨w.heap.size, 0, none⟩) n n) (w.alloc (.cells (zeroV n).toArray 5)) := by
  obtain ⟨i, h1, h2, h3, h4⟩ := info_parts info_byte
  have hb2 : (i.bytes : Int) * (n : Int) ≤ 281474976710656 := by rw [h4]; omega
  have := run_make (P := Tryd.prog) w 24 5 i (.int .u8 0) Tryd.underlying24 h1 h2 .i64 .i64 n n (by omega) (by omega) hb2 (by omega)
  have e : madeCells (Value.int .u8 0).cells (n * i.size) = (zeroV n).toArray := by
    rw [h3, Nat.mul_one]
    apply Array.toList_inj.1
    exact toList_madeCells_one _ _
  simpa [e] using this
theorem zeroV_bt (n : Nat) : zeroV n = btV (List.replicate n 0) := by simp [zeroV, btV]
theorem zeroRow_len : zeroRow.length = 512 := List.length_replicate
/-- Bytes copied over zeros. -/
theorem splice_row (r : List Int) (n : Nat) (h : r.length = n) : splice (zeroV n) 0 (btV r) = btV r := by
  simp [splice, zeroV, btV_len, h]
theorem splice_none (n : Nat) : splice (zeroV n) 0 (btV []) = btV (List.replicate n 0) := by
  rw [← zeroV_bt]; simp [splice, btV]
theorem zeroV_len (n : Nat) : (zeroV n).length = n := by simp [zeroV]
attribute [irreducible] zeroV
theorem size_byte' : (Tryd.prog.info? 5).map (·.size) = some 1 := by kernel_rfl
theorem zero_row (w : World) : (zeroValue 24).run Tryd.prog w = .ok (.slice none 0 0) w := by kernel_rfl
/-- What is looked up where a sector is read: the row that stands there, or nothing. -/
structure Found (w : World) (v : Value) (r : List Int) (full : Bool) : Prop where
  none_ : full = false → v = .slice none 0 0
  some_ : full = true → ∃ g c, v = .slice (some ⟨g, 0, none⟩) r.length c ∧ InB w (some ⟨g, 0, none⟩) r
theorem BoxOf.found {w : World} {B : Base} {g N : Nat} {d : Dk} {s : Spot} (h : BoxOf w B g d N s) (k : Nat) (hk : k < d.many) : ∃ v full, (Instr.lookup 75 (.map (some s.nb)) (.int .i64 (k : Int)) false).run Tryd.prog w = .ok v w ∧ Found w v (d.look k) full ∧ (full = false → d.look k = zeroRow) := by
  have hm := h.many
  obtain ⟨v, ps, hrun, hv⟩ := h.mapN.lookup keyK Tryd.underlying75 (zero_row w) rowR_nil (key_at (k := (k : Int)) (by unfold okInt; omega))
  rcases h.isN.look k hv with ⟨h1, h2⟩ | ⟨r, h1, h2⟩
  · exact ⟨v, false, hrun, ⟨fun _ => h2, fun e => (by cases e)⟩, fun _ => by unfold Dk.look; rw [h1]; rfl⟩
  · have e : d.look k = r := by unfold Dk.look; rw [h1]; rfl
    rw [e]
    obtain ⟨a, c, e2, hin, -⟩ := h2.1.shape
    obtain ⟨g', c', e3, -, -⟩ := h2.form
    rw [e3] at e2
    injection e2 with e4 e5 e6
    subst e4
    exact ⟨v, true, hrun, ⟨fun e => (by cases e), fun _ => ⟨g', c', e3, hin⟩⟩, fun e => (by cases e)⟩
theorem row_made {w : World} {B : Base} {b : Nat} {r : List Int} (hl : r.length = 512) (hg : w.heap[b]? = some (.cells (btV r).toArray 5)) (hB : B.lo ≤ b) (hX : B.off ≠ some b) : RowAt w B (.slice (some ⟨b, 0, none⟩) 512 512) r := by
  have e : (btV r).length = 512 := by rw [btV_len]; exact hl
  refine ⟨⟨by rw [hl, e], .inr ⟨b, 512, _, by rw [hl], hB, hg, by omega, by unfold maxLen; omega, by simp [e], by rw [List.take_of_length_le (by simp [e, hl])]⟩⟩, by omega, fun b' hb' => by rw [← hb']; exact hX⟩
set_option maxHeartbeats 4000000 in
theorem sector_any (h g : Nat) (k : Nat) (w : World) (B : Base) (N : Nat) (d : Dk) (hk : k < d.many) (hh : w.cell? ⟨h, 0, none⟩ = some (.pointer (some ⟨g, 0, none⟩))) (hb : BoxAt w B g d N) :
    Calls Tryd.prog 22 #[.pointer (some ⟨h, 0, none⟩), .int .i64 (k : Int)] w fun e w' => ∃ v, e = .returned v ∧ RowAt w' w.heap.size v (d.look k) ∧ Below w.heap.size w w' := by
  obtain ⟨hok, s, hb⟩ := hb
  obtain ⟨q0, q1, q2, q3, q4, q5, q6, q7⟩ := boxC_get d s.sb s.nb s.wv
  have c0 := (hb.cells 0).trans q0
  have hm := hb.many
  have hmk : ∀ w : World, (Instr.makeSlice 24 (.int .i64 512) (.int .i64 512)).run Tryd.prog w = .ok (.slice (some ⟨w.heap.size, 0, none⟩) 512 512) (w.alloc (.cells (zeroV 512).toArray 5)) := fun w => by have := make_zero 512 (by omega) w; simpa using this
  have HB := Lib.hid (hb.then_ (below1 w (.cells (zeroV 512).toArray 5)))
  have hh1 := ((below1 w (.cells (zeroV 512).toArray 5)).cell (p := ⟨h, 0, none⟩) (cell_lt hh)).trans hh
  have c2 := (HB.out.cells 2).trans q2
  obtain ⟨v, full, hrun, hf, hz⟩ := HB.out.found k hk
  have HF := Lib.hid (And.intro hf hz)
  have HL := Lib.hid (hok.look_len k)
  clear q0 q1 q2 q3 q4 q5 q6 q7 hf hz hb
  have hlt : ¬ ((d.many : Int) ≤ (k : Int)) := by omega
  cases full
  · obtain rfl := HF.out.1.none_ rfl
    go_enter Tryd.func22, Tryd.ntmps22
    go_wp2_with (show wpList _ _ _ (⟨some 30, _, _, _, _, _⟩ :: _) _ _; refine wpList_copy_splice (o := ⟨some 30, _, _, _, _, _⟩) rfl (.tmp 20) (.tmp 29) 24 24 rfl 5 Tryd.underlying24 size_byte' _ _ _ _ _ _ rfl rfl w.heap.size 0 (zeroV 512) 5 (heap_alloc_new w _) (btV []) (Nat.zero_min _).symm (fun hp => absurd hp (by simp [btV])) (by simp [btV]) (btV_one []) w.heap.size w (below1 w _) (Nat.le_refl _) ?_; intro w2 hg2 hb2; have HG2 := Lib.hid hg2; have HB2 := Lib.hid hb2; clear hg2 hb2)
    go_ret
    refine ⟨_, rfl, ?_, HB2.out⟩
    have e := HG2.out
    rw [splice_none] at e
    rw [HF.out.2 trivial]
    exact row_made zeroRow_len e (Nat.le_refl _) (by simp)
  · obtain ⟨g2, c3, rfl, hin⟩ := HF.out.1.some_ rfl
    have HI := Lib.hid hin
    have HS := Lib.hid (splice_row (d.look k) 512 HL.out)
    clear hin
    go_enter Tryd.func22, Tryd.ntmps22
    go_wp2_with (show wpList _ _ _ (⟨some 30, _, _, _, _, _⟩ :: _) _ _; refine wpList_copy_splice (o := ⟨some 30, _, _, _, _, _⟩) rfl (.tmp 20) (.tmp 29) 24 24 rfl 5 Tryd.underlying24 size_byte' _ _ _ _ _ _ rfl rfl w.heap.size 0 (zeroV 512) 5 (heap_alloc_new w _) (btV (d.look k)) (by rw [btV_len, HL.out]; exact (Nat.min_self _).symm) (fun hp => ⟨rfl, HI.out.src (Below.refl _ _) (by rw [HL.out]; omega)⟩) (by rw [btV_len, HL.out, zeroV_len]; omega) (btV_one _) w.heap.size w (below1 w _) (Nat.le_refl _) ?_; intro w2 hg2 hb2; have HG2 := Lib.hid hg2; have HB2 := Lib.hid hb2; clear hg2 hb2)
    go_wp2_with fail
    go_ret
    refine ⟨_, rfl, ?_, HB2.out⟩
    have e := HG2.out
    rw [HS.out] at e
    exact row_made HL.out e (Nat.le_refl _) (by simp)
end Go.Proofs.YtonjapphhbhcpaaDoor
namespace Go.Proofs.YtonjapphhbhcpaaDoor
open Go.RowKit
/-- A call in a region that draws, which may end by a panic. -/
theorem step_falls {P : Program} {ops : Array Oper} {o : Oper} {a : Act} {w : World} {K : Act → World → Prop} {Q : Exit → Act → World → Prop} {E : Prop} (hgd : o.guard = none) (f : FuncId) (args : Array Value)
    (hrun : (execOp a.eval o).run P w = .ok (.enter f args) w) (h : Calls P f args w fun e w' => (∃ v, e = .returned v ∧ K (a.put o.dst v) w') ∨ ∃ ch, e = .panicked ch ∧ Q (.panic ch) a w') :
    if Region.wanted o (yielded ops a.tmps) = true then Oper.wp P o a w K Q else E := by
  have hw : Region.wanted o (yielded ops a.tmps) = true := by simp [Region.wanted, hgd]
  rw [if_pos hw]
  unfold Oper.wp
  rw [hrun, Oper.upon_enter]
  refine h.mono ?_
  rintro e w' (⟨v, rfl, hk⟩ | ⟨ch, rfl, hk⟩)
  · exact hk
  · exact hk
theorem step_call {P : Program} {ops : Array Oper} {o : Oper} {a : Act} {w : World} {K : Act → World → Prop} {Q : Exit → Act → World → Prop} {E : Prop} (hgd : o.guard = none) (f : FuncId) (args : Array Value)
    (hrun : (execOp a.eval o).run P w = .ok (.enter f args) w) (h : Calls P f args w fun e w' => ∃ v, e = .returned v ∧ K (a.put o.dst v) w') :
    if Region.wanted o (yielded ops a.tmps) = true then Oper.wp P o a w K Q else E := step_falls hgd f args hrun (h.mono fun e w' h => .inl h)
end Go.Proofs.YtonjapphhbhcpaaDoor
namespace Go.Proofs.YtonjapphhbhcpaaDoor
open Go.RowKit
set_option maxRecDepth 100000

def zB (n : Nat) : List Int := List.replicate n 0
theorem zB_len (n : Nat) : (zB n).length = n := List.length_replicate
theorem zB_add (a b : Nat) : zB (a + b) = zB a ++ zB b := List.replicate_append_replicate.symm
/-- A page's parts: the sum, the number, the kind, the length, the rest. -/
def partsL (s nm kd ln bd : List Int) : List Int := s ++ (nm ++ (kd ++ (ln ++ bd)))
theorem parts_zero : zB 4096 = partsL (zB 4) (zB 4) (zB 1) (zB 2) (zB 4085) := by
  unfold partsL
  rw [← zB_add, ← zB_add, ← zB_add, ← zB_add]
section
variable {s nm kd ln bd x : List Int}
theorem parts_len (h1 : s.length = 4) (h2 : nm.length = 4) (h3 : kd.length = 1) (h4 : ln.length = 2) (h5 : bd.length = 4085) : (partsL s nm kd ln bd).length = 4096 := by
  unfold partsL
  simp only [List.length_append]
  omega
theorem parts_s (h1 : s.length = x.length) : spl (partsL s nm kd ln bd) 0 x = partsL x nm kd ln bd := spl_mid (a := []) h1 rfl
theorem parts_nm (h1 : s.length = 4) (h2 : nm.length = x.length) : spl (partsL s nm kd ln bd) 4 x = partsL s x kd ln bd := spl_mid h2 h1.symm
theorem parts_ln (h1 : s.length = 4) (h2 : nm.length = 4) (h3 : kd.length = 1) (h4 : ln.length = x.length) : spl (partsL s nm kd ln bd) 9 x = partsL s nm kd x bd := by
  have e : ∀ y : List Int, partsL s nm kd y bd = (s ++ nm ++ kd) ++ (y ++ bd) := fun y => by unfold partsL; simp only [List.append_assoc]
  rw [e, e]
  exact spl_mid h4 (by simp only [List.length_append]; omega)
theorem parts_bd {m r : List Int} (h1 : s.length = 4) (h2 : nm.length = 4) (h3 : kd.length = 1) (h4 : ln.length = 2) (h5 : m.length = x.length) : spl (partsL s nm kd ln (m ++ r)) 11 x = partsL s nm kd ln (x ++ r) := by
  have e : ∀ y : List Int, partsL s nm kd ln (y ++ r) = (s ++ nm ++ kd ++ ln) ++ (y ++ r) := fun y => by unfold partsL; simp only [List.append_assoc]
  rw [e, e]
  exact spl_mid h5 (by simp only [List.length_append]; omega)
theorem parts_kd {y z : Int} (h1 : s.length = 4) (h2 : nm.length = 4) : (partsL s nm [y] ln bd).set 8 z = partsL s nm [z] ln bd := by
  have e : ∀ y : Int, partsL s nm [y] ln bd = (s ++ nm) ++ (y :: (ln ++ bd)) := fun y => by unfold partsL; simp only [List.append_assoc]; rfl
  rw [e, e, List.set_append_right _ _ (by simp only [List.length_append]; omega)]
  simp only [List.length_append, h1, h2]
  rfl
theorem parts_drop (h1 : s.length = 4) : (partsL s nm kd ln bd).drop 4 = nm ++ (kd ++ (ln ++ bd)) := List.drop_left' h1
end
theorem parts_page (number kind : Int) (body : List Int) : partsL (leB 4 (moreP 0 (restL number kind body))) (leB 4 number) (leB 1 kind) (leB 2 (body.length : Int)) (body ++ zB (4085 - body.length)) = pageL number kind body := rfl
end Go.Proofs.YtonjapphhbhcpaaDoor
namespace Go.Proofs.YtonjapphhbhcpaaDoor
open Go.RowKit
set_option maxRecDepth 100000

theorem numE_ok {n : Int} {s : Nat} (h1 : 1 ≤ s) (h8 : s ≤ 8) (h0 : 0 ≤ n) (hn : n < 256 ^ s) : numE n s = 0 := by
  have hk : okN n s = true := decide_eq_true ⟨by omega, by omega, h0, by rw [Int.toNat_natCast]; exact Int.ediv_eq_zero_of_lt h0 hn⟩
  rw [numE, hk]
  rfl
set_option maxHeartbeats 4000000 in
theorem lput_any (g k : Nat) (n : Int) (size c : Nat) (L : List Int) (w : World) (B : Nat) (hf : FullAt w g L) (hn : okInt n) (h1 : 1 ≤ size) (h8 : size ≤ 8) (h0 : 0 ≤ n) (hn2 : n < 256 ^ size) (hk : k + size ≤ L.length) (hB : B ≤ g) :
    Calls Tryd.prog 53 #[.slice (some ⟨g, k, none⟩) size c, .int .i64 n] w fun e w' => e = .returned (.tuple #[]) ∧ FullAt w' g (spl L k (leB size n)) ∧ Below B w w' := by
  have HN := Lib.hid (pnumber_any n size hn (by unfold okInt; omega) w)
  have HE := Lib.hid (And.intro (numL_ok h1 h8 h0 hn2) (numE_ok h1 h8 h0 hn2))
  have HF := Lib.hid (And.intro hf hk)
  have hgl := hf.lt
  clear hf hk hn hn2
  go_enter Tryd.func53, Tryd.ntmps53
  go_wp2_with (first
    | (go_at_call 56; refine HN.out.mono ?_; rintro e w1 ⟨x, rfl, ho, hb⟩; rw [HE.out.1] at ho; rw [HE.out.2]; obtain ⟨ax, cx, rfl, hin, hnil, -, -⟩ := ho.shape; rw [leB_len]; have HX := Lib.hid (And.intro hin (And.intro hb hnil)); clear ho hin hb hnil)
    | (show wpList _ _ _ (⟨some 15, _, _, _, _, _⟩ :: _) _ _; refine cpF (o := ⟨some 15, _, _, _, _, _⟩) rfl (.tmp 13) (.tmp 14) rfl g k size c L (HF.out.1.then_ HX.out.2.1) rfl ax size cx (leB size n) rfl (leB_len _ _) (Nat.le_refl _) HX.out.1 HF.out.2 B w (HX.out.2.1.mono (Nat.le_trans hB (Nat.le_of_lt hgl))) hB ?_; intro w2 hg2 hb2; have HB2 := Lib.hid hb2; clear hb2))
  exact ⟨rfl, .tuple #[], results_void rfl _ _, rfl, hg2.out, HB2.out⟩
end Go.Proofs.YtonjapphhbhcpaaDoor
namespace Go.Proofs.YtonjapphhbhcpaaDoor
open Go.RowKit
set_option maxRecDepth 100000

theorem zeroV_z (n : Nat) : zeroV n = btV (zB n) := zeroV_bt n
theorem parts_kx {s nm kd ln bd x : List Int} (h1 : s.length = 4) (h2 : nm.length = 4) (h3 : kd.length = x.length) : spl (partsL s nm kd ln bd) 8 x = partsL s nm x ln bd := by
  have e : ∀ y : List Int, partsL s nm y ln bd = (s ++ nm) ++ (y ++ (ln ++ bd)) := fun y => by unfold partsL; simp only [List.append_assoc]
  rw [e, e]
  exact spl_mid h3 (by simp only [List.length_append]; omega)
set_option maxHeartbeats 4000000 in
theorem lmake_any (number kind : Int) (la : Option Addr) (n c : Nat) (l : List Int) (w : World) (ht : Tab16 w) (h1 : okInt number) (h2 : okInt kind) (hin : InB w la l) (hB : isB l) (hn : l.length = n) (hnil : la = none → c = 0 ∧ l = []) :
    Calls Tryd.prog 32 #[.int .i64 number, .int .i64 kind, .slice la n c] w (MakeTo number kind l w) := by
  unfold okInt at h1 h2
  cases ho : okG number kind n
  · have HE : Hid (MakeTo number kind l w (.returned (.tuple #[.slice none 0 0, .int .i64 1])) w) := Lib.hid ⟨_, by unfold makeE; rw [hn, ho]; rfl, by unfold makeL; rw [hn, ho]; exact OwnB.nil _ _, Below.refl _ _⟩
    have hx := okG_no ho
    clear ho hin hB hn hnil
    go_enter Tryd.func32, Tryd.ntmps32
    go_wp2_with fail
    all_goals go_ret2
    all_goals exact HE.out
  · obtain ⟨a1, a2, a3, a4, a5⟩ := okG_yes ho
    have HE : Hid (makeE number kind l.length = 0 ∧ makeL number kind l = pageL number kind l) := Lib.hid ⟨by unfold makeE; rw [hn, ho]; rfl, by unfold makeL; rw [hn, ho]; rfl⟩
    have HA := Lib.hid (And.intro hin (And.intro hB (And.intro hn (And.intro hnil ht))))
    have hmk : ∀ w : World, (Instr.makeSlice 24 (.int .i64 4096) (.int .i64 4096)).run Tryd.prog w = .ok (.slice (some ⟨w.heap.size, 0, none⟩) 4096 4096) (w.alloc (.cells (zeroV 4096).toArray 5)) := fun w => by have := make_zero 4096 (by omega) w; simpa using this
    clear ho hin hB hn hnil ht
    go_enter Tryd.func32, Tryd.ntmps32
    go_wp2_with fail
    have hB1 := below1 w (.cells (zeroV 4096).toArray 5)
    have F1 : Hid (FullAt (w.alloc (.cells (zeroV 4096).toArray 5)) w.heap.size (partsL (zB 4) (zB 4) (zB 1) (zB 2) (zB 4085))) := Lib.hid (by rw [← parts_zero]; unfold FullAt; rw [← zeroV_z]; exact heap_alloc_new w _)
    have L4 : ∀ x : Int, (leB 4 x).length = 4 := leB_len 4
    have L2 : ∀ x : Int, (leB 2 x).length = 2 := leB_len 2
    have L1 : ∀ x : Int, (leB 1 x).length = 1 := leB_len 1
    refine (lput_any w.heap.size 4 number 4 _ _ _ w.heap.size F1.out h1 (by omega) (by omega) a1 (by omega) (by rw [parts_len (zB_len _) (zB_len _) (zB_len _) (zB_len _) (zB_len _)]; omega) (Nat.le_refl _)).mono ?_
    rintro e w2 ⟨rfl, f2, b2⟩
    rw [parts_nm (zB_len _) (by rw [zB_len, L4])] at f2
    have F2 := Lib.hid f2
    have B2 := Lib.hid (hB1.trans b2)
    clear f2 b2 F1
    go_wp2_with fail
    refine (lput_any w.heap.size 8 kind 1 _ _ _ w.heap.size F2.out h2 (by omega) (by omega) (by omega) (by omega) (by rw [parts_len (zB_len _) (L4 _) (zB_len _) (zB_len _) (zB_len _)]; omega) (Nat.le_refl _)).mono ?_
    rintro e w3 ⟨rfl, f3, b3⟩
    rw [parts_kx (zB_len _) (L4 _) (by rw [zB_len, L1])] at f3
    have F3 := Lib.hid f3
    have B3 := Lib.hid (B2.out.trans b3)
    clear f3 b3 F2
    go_wp2_with fail
    refine (lput_any w.heap.size 9 n 2 _ _ _ w.heap.size F3.out (by unfold okInt; omega) (by omega) (by omega) (by omega) (by omega) (by rw [parts_len (zB_len _) (L4 _) (L1 _) (zB_len _) (zB_len _)]; omega) (Nat.le_refl _)).mono ?_
    rintro e w4 ⟨rfl, f4, b4⟩
    rw [parts_ln (zB_len _) (L4 _) (L1 _) (by rw [zB_len, L2]), show zB 4085 = zB n ++ zB (4085 - n) by rw [← zB_add, show n + (4085 - n) = 4085 by omega]] at f4
    have F4 := Lib.hid f4
    have B4 := Lib.hid (B3.out.trans b4)
    clear f4 b4 F3
    have l5 : (partsL (zB 4) (leB 4 number) (leB 1 kind) (leB 2 (n : Int)) (zB n ++ zB (4085 - n))).length = 4096 := parts_len (zB_len _) (L4 _) (L1 _) (L2 _) (by rw [← zB_add, zB_len]; omega)
    have P5 := Lib.hid (parts_bd (s := zB 4) (nm := leB 4 number) (kd := leB 1 kind) (ln := leB 2 (n : Int)) (r := zB (4085 - n)) (x := l) (zB_len _) (L4 _) (L1 _) (L2 _) (show (zB n).length = l.length by rw [zB_len, HA.out.2.2.1]))
    have HL5 := Lib.hid l5
    clear l5
    go_wp2_with (show wpList _ _ _ (⟨some 45, _, _, _, _, _⟩ :: _) _ _; refine cpF (o := ⟨some 45, _, _, _, _, _⟩) rfl (.tmp 43) (.tmp 44) rfl w.heap.size 11 4085 4085 _ F4.out rfl la n c l rfl HA.out.2.2.1 a5 (HA.out.1.then_ B4.out) (by rw [HL5.out]; omega) w.heap.size w B4.out (Nat.le_refl _) ?_; intro w5 f5 B5; rw [P5.out] at f5; replace B5 := Lib.hid B5)
    have D5 := Lib.hid (Below.refl w.heap.size w5).drew
    have S5 := Lib.hid (more0_any (some ⟨w.heap.size, 4, none⟩) 4092 4092 (restL number kind l) w5.drew (fun i hi => ((B5.out.trans D5.out).cell (p := ⟨1, i, none⟩) (cell_lt (HA.out.2.2.2.2 i hi))).trans (HA.out.2.2.2.2 i hi)) (by
      have h := InB.from (f5.out.then_ (Below.refl _ w5).drew).inB 4
      rw [parts_drop (zB_len _)] at h
      have e : restL number kind l = leB 4 number ++ (leB 1 kind ++ (leB 2 (n : Int) ++ (l ++ zB (4085 - n)))) := by unfold restL; rw [HA.out.2.2.1]; rfl
      rw [e]
      have h4 : (⟨w.heap.size, 0 + 4, none⟩ : Addr) = ⟨w.heap.size, 4, none⟩ := by simp
      rw [h4] at h
      exact h) (restL_byte HA.out.2.1) (restL_len (by rw [HA.out.2.2.1]; exact a5)) (by omega))
    have HMS := Lib.hid (moreP_rng0 (restL_byte (number := number) (kind := kind) HA.out.2.1))
    generalize hsm : moreP 0 (restL number kind l) = sm at S5 HMS
    have HSM := Lib.hid hsm
    clear hsm
    have hms := HMS.out
    have P6 := Lib.hid (lput_any w.heap.size 0 sm 4 4096 _ w5.drew w.heap.size (f5.out.then_ (Below.refl _ w5).drew) (by unfold okInt; omega) (by omega) (by omega) hms.1 (by omega) (by rw [parts_len (zB_len _) (L4 _) (L1 _) (L2 _) (by rw [List.length_append, zB_len, HA.out.2.2.1]; omega)]; omega) (Nat.le_refl _))
    rw [parts_s (by rw [zB_len, L4])] at P6
    clear hms
    go_wp2_with fail
    go_region_law (first
      | (refine step_call (o := { dst := some 50, op := _, type := _, pos := _, after := _, guard := none }) rfl 54 #[.slice (some ⟨w.heap.size, 4, none⟩) 4092 4092] (by go_simp) (S5.out.mono ?_); rintro e w6 ⟨rfl, rfl⟩; refine ⟨_, rfl, ?_⟩)
      | (refine step_call (o := { dst := some 51, op := _, type := _, pos := _, after := _, guard := none }) rfl 53 #[.slice (some ⟨w.heap.size, 0, none⟩) 4 4096, .int .i64 sm] (by go_simp) (P6.out.mono ?_); rintro e w7 ⟨rfl, f7, b7⟩; have F7 : Hid (FullAt w7 w.heap.size (pageL number kind l)) := Lib.hid (by rw [← parts_page, HSM.out, HA.out.2.2.1]; exact f7)
         have B7 := Lib.hid ((B5.out.trans D5.out).trans b7); clear f7 b7; refine ⟨_, rfl, ?_⟩))
    have HX : Hid (MakeTo number kind l w (.returned (.tuple #[.slice (some ⟨w.heap.size, 0, none⟩) 4096 4096, .int .i64 0])) w7) := Lib.hid ⟨_, by rw [HE.out.1], by
      rw [HE.out.2]
      have h := F7.out.own (Nat.le_refl _) (by rw [pageL_len (by rw [HA.out.2.2.1]; exact a5)]; decide)
      rw [pageL_len (by rw [HA.out.2.2.1]; exact a5)] at h
      exact h, B7.out⟩
    go_wp2_with fail
    go_ret2
    exact HX.out
end Go.Proofs.YtonjapphhbhcpaaDoor
namespace Go.Proofs.YtonjapphhbhcpaaDoor
open Go.RowKit
set_option maxRecDepth 100000

theorem cutB_all (l : List Int) : cutB l 0 (l.length : Int) = l := by
  unfold cutB
  rw [Int.toNat_natCast]
  exact List.take_of_length_le (Nat.le_refl _)
set_option maxHeartbeats 4000000 in
theorem ltold_any (la : Option Addr) (c n : Nat) (l : List Int) (w : World) (ha : InB w la l) (hB : isB l) (hn : l.length = n) (hcap : n ≤ c) (hs1 : 1 ≤ n) (hs : n ≤ 7) :
    Calls Tryd.prog 60 #[.slice la n c] w fun e w' => e = .returned (.int .i64 (valB l)) ∧ w = w' := by
  have HR := Lib.hid (pread_any la c n l (0 : Nat) n w ha hB hn (by omega) hcap (by unfold okInt; omega) (by unfold okInt; omega))
  unfold ReadTo at HR
  have hr := read_is hB (a := 0) (s := n) hs1 hs (by omega)
  have hc : cutB l ((0 : Nat) : Int) (n : Int) = l := by rw [← hn]; exact cutB_all l
  rw [hr.1, hr.2, hc] at HR
  clear hr ha hB hn hc
  go_enter Tryd.func60, Tryd.ntmps60
  go_wp2_with fail
  refine HR.out.mono ?_
  rintro e w' ⟨rfl, rfl⟩
  go_wp2_with fail
  go_ret
  exact ⟨rfl, rfl⟩
set_option maxHeartbeats 4000000 in
theorem lempty_any (la : Option Addr) (c n : Nat) (l : List Int) (w : World) (ha : InB w la l) (hB : isB l) (hn : l.length = n) (hnn : n ≤ 140737488351232) :
    Calls Tryd.prog 61 #[.slice la n c] w fun e w' => e = .returned (.bool (l.all (· == 0))) ∧ w = w' := by
  have HA := Lib.hid (And.intro ha (And.intro hB hn))
  clear ha hB hn
  go_enter Tryd.func61, Tryd.ntmps61
  go_wp2_with fail
  go_loop [4, 7] (fun _ i => ∃ k : Nat, k ≤ n ∧ i = .int .i64 (k : Int) ∧ Hid (∀ j, j < k → l[j]? = some 0)) (fun _ i => n - (intOf i).toNat)
  case atStart => exact ⟨0, Nat.zero_le _, rfl, Lib.hid (show ∀ j, j < 0 → l[j]? = some 0 from fun j h => absurd h (Nat.not_lt_zero _))⟩
  case round =>
    obtain ⟨k, hk, rfl, HK⟩ := hrel
    by_cases hlt : k < n
    · obtain ⟨b, o, y, rfl, hy, y0⟩ := HA.out.1.one (i := k) (by rw [HA.out.2.2]; exact hlt)
      have HY := Lib.hid hy
      have hyb := HA.out.2.1.at' hy
      clear hy
      by_cases hy0 : y = 0
      · subst hy0
        go_wp2_with fail
        go_round
        case rel => exact ⟨k + 1, by omega, by go_num, Lib.hid (show ∀ j, j < k + 1 → l[j]? = some 0 from fun j h => by
          by_cases e : j = k
          · rw [e]; exact HY.out
          · exact HK.out j (by omega))⟩
        case measure => simp [intOf]; omega
      · have q5 : (y != 0) = true := by simp [hy0]
        have HX : Hid (l.all (· == 0) = false) := Lib.hid (by
          cases h : l.all (· == 0)
          · rfl
          · have := List.all_eq_true.1 h y (List.mem_of_getElem? HY.out)
            simp at this
            exact absurd this hy0)
        go_wp2_with fail
        go_ret
        exact ⟨by rw [HX.out]; rfl, rfl⟩
    · have hkn : k = n := by omega
      subst hkn
      have HX : Hid (l.all (· == 0) = true) := Lib.hid (List.all_eq_true.2 (fun x hx => by
        obtain ⟨i, hi⟩ := List.mem_iff_getElem?.1 hx
        have hl := (List.getElem?_eq_some_iff.1 hi).1
        have := HK.out i (by rw [← HA.out.2.2]; exact hl)
        rw [this] at hi
        cases hi
        rfl))
      go_wp2_with fail
      go_ret
      exact ⟨by rw [HX.out]; rfl, rfl⟩
end Go.Proofs.YtonjapphhbhcpaaDoor
namespace Go.Proofs.YtonjapphhbhcpaaDoor
open Go.RowKit
set_option maxRecDepth 100000

theorem cutB_len {l : List Int} {a s : Nat} (h : a + s ≤ l.length) : (cutB l a s).length = s := by
  unfold cutB
  rw [List.length_take, List.length_drop]
  omega
theorem isB_cut {l : List Int} (h : isB l) (a s : Int) : isB (cutB l a s) := (h.drop a.toNat).take' s.toNat
theorem InB.cut {w : World} {b o : Nat} {l : List Int} (h : InB w (some ⟨b, o, none⟩) l) (a s : Nat) : InB w (some ⟨b, o + a, none⟩) (cutB l a s) := by
  unfold cutB
  rw [Int.toNat_natCast, Int.toNat_natCast]
  exact (h.from a).take_ s
theorem cut_one {l : List Int} {k : Nat} {x : Int} (h : l[k]? = some x) : valB (cutB l k (1 : Nat)) = x := by
  unfold cutB
  rw [Int.toNat_natCast, Int.toNat_natCast]
  have hl := (List.getElem?_eq_some_iff.1 h)
  obtain ⟨hl, e⟩ := hl
  rw [List.drop_eq_getElem_cons hl, e]
  show valB [x] = x
  simp [valB]
/-- told of a part of a page. -/
theorem ltold_cut {w : World} {b o c : Nat} {l : List Int} (ha : InB w (some ⟨b, o, none⟩) l) (hB : isB l) (a s : Nat) (h1 : 1 ≤ s) (h7 : s ≤ 7) (hl : a + s ≤ l.length) (hc : s ≤ c) :
    Calls Tryd.prog 60 #[.slice (some ⟨b, o + a, none⟩) s c] w fun e w' => e = .returned (.int .i64 (valB (cutB l a s))) ∧ w = w' :=
  ltold_any _ c s (cutB l a s) w (ha.cut a s) (isB_cut hB _ _) (cutB_len hl) hc h1 h7
/-- 'copy(b[k:], x)' into such a row, x the longer one. -/
theorem cpG {ops : Array Oper} {rest : List Oper} {o : Oper} {a : Act} {w : World} {Q : Exit → Act → World → Prop} (hgd : o.guard = none) (d s : Operand)
    (ho : o.op = .call { callee := .builtin .copy, args := #[d, s], argTypes := #[24, 24] }) (g k n c : Nat) (L : List Int) (hf : FullAt w g L) (hd : a.eval d = .slice (some ⟨g, k, none⟩) n c)
    (ax : Option Addr) (m cx : Nat) (xs : List Int) (hs : a.eval s = .slice ax m cx) (hm : xs.length = n) (hmn : n ≤ m) (hin : InB w ax xs) (hk : k + n ≤ L.length) (B : Nat) (w0 : World) (hb : Below B w0 w) (hB : B ≤ g)
    (h : ∀ w', Hid (FullAt w' g (spl L k xs)) → Below B w0 w' → wpList Tryd.prog ops Q rest (a.put o.dst (goInt n)) w') : wpList Tryd.prog ops Q (o :: rest) a w := by
  refine wpList_copy_splice hgd d s 24 24 ho 5 Tryd.underlying24 (by kernel_rfl) _ _ n c m cx hd hs g k (btV L) 5 hf (btV xs) (by rw [btV_len, hm]; exact (Nat.min_eq_right hmn).symm) (fun hp => ?_) (by rw [btV_len, btV_len, hm]; exact hk) (bt_one _) B w0 hb hB ?_
  · rw [btV_len] at hp
    exact ⟨rfl, hin.src (Below.refl _ _) hp⟩
  · intro w' hg hb'
    rw [btV_len, hm]
    exact h w' (Lib.hid (by unfold FullAt; rw [← splice_bt]; exact hg.out)) hb'
theorem spl_all {n : Nat} {xs : List Int} (h : xs.length = n) : spl (zB n) 0 xs = xs := by
  unfold spl
  rw [List.take_zero, List.nil_append, List.drop_eq_nil_of_le (by rw [zB_len]; omega), List.append_nil]
theorem OpenTo.badB {l : List Int} {number : Int} {w w' : World} {n : Int} (h : openE l number = n) (hn : n ≠ 0) (hb : Below w.heap.size w w') : OpenTo l number w (.returned (.tuple #[.int .i64 0, .slice none 0 0, .int .i64 n])) w' := by
  obtain ⟨v, e, h1, -⟩ := OpenTo.bad (w := w) h hn
  exact ⟨v, e, h1.then_ hb, hb⟩
set_option maxHeartbeats 4000000 in
theorem lopen_any (number : Int) (la : Option Addr) (n c : Nat) (l : List Int) (w : World) (ht : Tab16 w) (h1 : okInt number) (hin : InB w la l) (hB : isB l) (hn : l.length = n) (hc : n ≤ c) :
    Calls Tryd.prog 38 #[.slice la n c, .int .i64 number] w (OpenTo l number w) := by
  by_cases hz : n = 4096
  · obtain ⟨b, o, x0, rfl, -, -⟩ := hin.one (i := 0) (by omega)
    subst hz
    have hadd : ∀ k, (⟨b, o, none⟩ : Addr).add k = ⟨b, o + k, none⟩ := fun k => by unfold Addr.add; split <;> simp_all
    have hmap : ∀ k, Option.map (fun x : Addr => x.add k) (some ⟨b, o, none⟩) = some ⟨b, o + k, none⟩ := fun k => by rw [Option.map_some, hadd]
    obtain ⟨b8, o8, x8, e8, hx8, y8⟩ := hin.one (i := 8) (by omega)
    have hb8 := hB.at' hx8
    have hk8 : kindG l = x8 := by unfold kindG; rw [List.getD_eq_getElem?_getD, hx8]; rfl
    clear y8 e8 b8 o8
    have hinD : InB w.drew (some ⟨b, o, none⟩) l := hin.then_ (Below.refl _ w).drew
    obtain ⟨sm, hsm⟩ : ∃ sm, sm = moreP 0 (l.drop 4) := ⟨_, rfl⟩
    obtain ⟨td, htd⟩ : ∃ td, td = valB (cutB l 0 4) := ⟨_, rfl⟩
    obtain ⟨nb, hnb⟩ : ∃ nb, nb = valB (cutB l 4 4) := ⟨_, rfl⟩
    obtain ⟨lg, hlg⟩ : ∃ lg, lg = lenG l := ⟨_, rfl⟩
    have hlr := lenG_rng hB
    rw [← hlg] at hlr
    have HS := Lib.hid (more0_any (some ⟨b, o + 4, none⟩) (c - 4) 4092 (l.drop 4) w.drew (fun i hi => ((Below.refl w.heap.size w).drew.cell (p := ⟨1, i, none⟩) (cell_lt (ht i hi))).trans (ht i hi)) (hinD.from 4) (hB.drop 4) (by rw [List.length_drop, hn]) (by omega))
    rw [← hsm] at HS
    have HR1 := Lib.hid (ltold_cut (c := c) hinD hB 0 4 (by omega) (by omega) (by omega) (by omega))
    have e00 : valB (cutB l ((0 : Nat) : Int) ((4 : Nat) : Int)) = td := htd.symm
    rw [e00] at HR1
    have HE := Lib.hid (show openE l number = if sm = td then if nb = number then if x8 = 0 ∨ 4085 < lg then 122 else if clean l then 0 else 122 else 121 else 120 by unfold openE; rw [if_pos hn, hsm, htd, hnb, hlg, hk8])
    have HA := Lib.hid (And.intro hin (And.intro hB (And.intro hn (And.intro hlg (And.intro hk8 (And.intro hnb hx8))))))
    clear hin hB hn hsm htd hnb hlg hk8 hx8 hadd ht hinD
    unfold okInt at h1
    have c4 : (4 : Int) ≤ (c : Int) := by omega
    have c8 : (8 : Int) ≤ (c : Int) := by omega
    have c9 : (9 : Int) ≤ (c : Int) := by omega
    have c11 : (11 : Int) ≤ (c : Int) := by omega
    have d4 : ¬ c = 4 := by omega
    have d8 : ¬ c = 8 := by omega
    have d9 : ¬ c = 9 := by omega
    have d11 : ¬ c = 11 := by omega
    go_enter Tryd.func38, Tryd.ntmps38
    go_wp2_with fail
    go_region_law (first
      | (refine step_call (o := { dst := some 15, op := _, type := _, pos := _, after := _, guard := none }) rfl 60 #[.slice (some ⟨b, o, none⟩) 4 c] (by go_simp) (HR1.out.mono ?_); rintro e w' ⟨rfl, rfl⟩; refine ⟨_, rfl, ?_⟩)
      | (refine step_call (o := { dst := some 18, op := _, type := _, pos := _, after := _, guard := none }) rfl 54 #[.slice (some ⟨b, o + 4, none⟩) 4092 (c - 4)] (by go_simp) (HS.out.mono ?_); rintro e w' ⟨rfl, rfl⟩; refine ⟨_, rfl, ?_⟩))
    have B1 := Lib.hid (Below.refl w.heap.size w).drew
    have hin1 : InB w.drew (some ⟨b, o, none⟩) l := HA.out.1.then_ (Below.refl _ w).drew
    generalize w.drew = w1 at B1 hin1 ⊢
    have HI1 := Lib.hid hin1
    clear hin1 HS HR1 e00
    by_cases e1 : sm = td
    · have q1 : (td != sm) = false := by simp [e1]
      have HR2 := Lib.hid (ltold_cut (c := c - 4) HI1.out HA.out.2.1 4 4 (by omega) (by omega) (by rw [HA.out.2.2.1]; omega) (by omega))
      have e00 : valB (cutB l ((4 : Nat) : Int) ((4 : Nat) : Int)) = nb := HA.out.2.2.2.2.2.1.symm
      rw [e00] at HR2
      go_wp2_with fail
      refine HR2.out.mono ?_
      rintro e w' ⟨rfl, rfl⟩
      by_cases e2 : nb = number
      · have q2 : (nb != number) = false := by simp [e2]
        have HR3 := Lib.hid (ltold_cut (c := c - 8) (HI1.out.then_ (Below.refl _ w1).drew) HA.out.2.1 8 1 (by omega) (by omega) (by rw [HA.out.2.2.1]; omega) (by omega))
        have HR4 := Lib.hid (ltold_cut (c := c - 9) (HI1.out.then_ (Below.refl _ w1).drew) HA.out.2.1 9 2 (by omega) (by omega) (by rw [HA.out.2.2.1]; omega) (by omega))
        rw [cut_one HA.out.2.2.2.2.2.2] at HR3
        have e92 : valB (cutB l ((9 : Nat) : Int) ((2 : Nat) : Int)) = lg := HA.out.2.2.2.1.symm
        rw [e92] at HR4
        go_wp2_with fail
        go_region_law (first
          | (refine step_call (o := { dst := some 27, op := _, type := _, pos := _, after := _, guard := none }) rfl 60 #[.slice (some ⟨b, o + 8, none⟩) 1 (c - 8)] (by go_simp) (HR3.out.mono ?_); rintro e w' ⟨rfl, rfl⟩; refine ⟨_, rfl, ?_⟩)
          | (refine step_call (o := { dst := some 30, op := _, type := _, pos := _, after := _, guard := none }) rfl 60 #[.slice (some ⟨b, o + 9, none⟩) 2 (c - 9)] (by go_simp) (HR4.out.mono ?_); rintro e w' ⟨rfl, rfl⟩; refine ⟨_, rfl, ?_⟩))
        have B2 := Lib.hid (B1.out.trans (Below.refl w.heap.size w1).drew)
        have HI2 := Lib.hid (HI1.out.then_ (Below.refl _ w1).drew)
        generalize w1.drew = w2 at B2 HI2 ⊢
        have HE2 := HE.out
        rw [if_pos e1, if_pos e2] at HE2
        clear e1 e2 q1 q2 HR2 HR3 HR4 HI1 B1 e00 e92
        by_cases e3 : x8 = 0 ∨ 4085 < lg
        · rw [if_pos e3] at HE2
          have HX := Lib.hid (OpenTo.badB (w := w) HE2 (by omega) B2.out)
          clear HE2
          by_cases e4 : x8 = 0
          · subst e4
            go_wp2_with fail
            go_ret3
            exact HX.out
          · have q4 : (x8 == 0) = false := by simp [e4]
            have e5 : 4085 < lg := by omega
            go_wp2_with fail
            go_ret3
            exact HX.out
        · rw [if_neg e3] at HE2
          have HE3 := Lib.hid HE2
          obtain ⟨lgn, hlgn⟩ := Int.eq_ofNat_of_zero_le hlr.1
          subst hlgn
          have q4 : (x8 == 0) = false := by simp; omega
          have hlg4 : lgn ≤ 4085 := by omega
          have HX8 := Lib.hid (show x8 ≠ 0 by omega)
          clear HE2 e3
          have HEM : Hid (∀ (pa : Option Addr) (ca : Nat), InB w2 pa (l.drop (11 + lgn)) → Calls Tryd.prog 61 #[.slice pa (4096 - (11 + lgn)) ca] w2 fun e w' => e = .returned (.bool (clean l)) ∧ w2 = w') := Lib.hid (fun pa ca h => by
            have h2 := lempty_any pa ca (4096 - (11 + lgn)) (l.drop (11 + lgn)) w2 h (HA.out.2.1.drop _) (by rw [List.length_drop, HA.out.2.2.1]) (by omega)
            have e : clean l = (l.drop (11 + lgn)).all (· == 0) := by
              unfold clean
              rw [← HA.out.2.2.2.1, Int.toNat_natCast]
            rw [e]
            exact h2)
          have hmk : ∀ w : World, (Instr.makeSlice 24 (.int .i64 (lgn : Int)) (.int .i64 (lgn : Int))).run Tryd.prog w = .ok (.slice (some ⟨w.heap.size, 0, none⟩) lgn lgn) (w.alloc (.cells (zeroV lgn).toArray 5)) := fun w => make_zero lgn (by omega) w
          go_wp2_with fail
          all_goals
            refine (HEM.out _ _ (by first
              | exact HI2.out.from (11 + lgn)
              | (have e : l.drop (11 + lgn) = [] := List.drop_eq_nil_of_le (by rw [HA.out.2.2.1]; omega)
                 rw [e]
                 intro i x hx
                 cases hx))).mono ?_
            rintro e w' ⟨rfl, rfl⟩
            cases hcl : clean l
            · have HX := Lib.hid (OpenTo.badB (w := w) (n := 122) (HE3.out.trans (by rw [hcl]; rfl)) (by omega) B2.out)
              clear hcl
              go_wp2_with fail
              go_ret3
              exact HX.out
            · have hE0 : Hid (openE l number = 0) := Lib.hid (by rw [HE3.out, if_pos hcl])
              clear hcl
              have HXS := Lib.hid (show ((l.drop 11).take lgn).length = lgn by rw [List.length_take, List.length_drop, HA.out.2.2.1]; omega)
              have HF : Hid (FullAt (w2.alloc (.cells (zeroV lgn).toArray 5)) w2.heap.size (zB lgn)) := Lib.hid (by unfold FullAt; rw [← zeroV_z]; exact heap_alloc_new w2 _)
              have HBB := Lib.hid (B2.out.trans ((below1 w2 (.cells (zeroV lgn).toArray 5)).mono B2.out.size))
              have HIN := Lib.hid (((HI2.out.from 11).take_ lgn).then_ (below1 w2 (.cells (zeroV lgn).toArray 5)))
              have HX : Hid (∀ w5 : World, FullAt w5 w2.heap.size (spl (zB lgn) 0 ((l.drop 11).take lgn)) → Below w.heap.size w w5 → OpenTo l number w (.returned (.tuple #[.int .i64 x8, .slice (some ⟨w2.heap.size, 0, none⟩) lgn lgn, .int .i64 0])) w5) := Lib.hid (fun w5 f5 b5 => by
                refine ⟨.slice (some ⟨w2.heap.size, 0, none⟩) lgn lgn, by unfold openK; rw [if_pos hE0.out, hE0.out, HA.out.2.2.2.2.1], ?_, b5⟩
                rw [spl_all HXS.out] at f5
                have h := f5.own B2.out.size (by rw [HXS.out]; exact Nat.le_trans hlg4 (by decide))
                rw [HXS.out] at h
                unfold openL
                rw [if_pos hE0.out, ← HA.out.2.2.2.1, Int.toNat_natCast]
                exact h)
              go_wp2_with (show wpList _ _ _ (⟨some 50, _, _, _, _, _⟩ :: _) _ _; refine cpG (o := ⟨some 50, _, _, _, _, _⟩) rfl (.tmp 47) (.tmp 49) rfl w2.heap.size 0 lgn lgn (zB lgn) HF.out rfl (some ⟨b, o + 11, none⟩) 4085 _ ((l.drop 11).take lgn) rfl HXS.out hlg4 HIN.out (by rw [zB_len]; omega) w.heap.size w HBB.out B2.out.size ?_; intro w5 f5 b5; have B5 := Lib.hid b5; clear b5)
              go_ret3
              exact HX.out _ f5.out B5.out
      · have q2 : (nb != number) = true := by simp [e2]
        have HX := Lib.hid (OpenTo.badB (w := w) (n := 121) (HE.out.trans (by rw [if_pos e1, if_neg e2])) (by omega) B1.out)
        clear e1 e2
        go_wp2_with fail
        go_ret3
        exact HX.out
    · have q1 : (td != sm) = true := by simp; omega
      have HX := Lib.hid (OpenTo.badB (w := w) (n := 120) (HE.out.trans (by rw [if_neg e1])) (by omega) B1.out)
      clear e1
      go_wp2_with fail
      go_ret3
      exact HX.out
  · have HE : Hid (OpenTo l number w (.returned (.tuple #[.int .i64 0, .slice none 0 0, .int .i64 122])) w) := Lib.hid (OpenTo.bad (by unfold openE; rw [if_neg (by omega)]) (by omega))
    have hz2 : ((n : Int) != 4096) = true := by simp; omega
    clear hn hin hB ht
    go_enter Tryd.func38, Tryd.ntmps38
    go_wp2_with fail
    go_ret3
    exact HE.out
end Go.Proofs.YtonjapphhbhcpaaDoor
