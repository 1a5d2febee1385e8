/- Package block's reading calls: contracts. No statement is proved here. -/
import Derived.Test.YtlpnhfceblbllaaDoorDBlk1
import Derived.Test.YtlpnhfceblbllaaDoorSLent
namespace Go.Proofs.YtlpnhfceblbllaaDoor
open Go.RowKit
open Go.Maps (Keyed IsMap Tidy)
set_option maxRecDepth 100000

def zeroV (n : Nat) : List Value := List.replicate n (.int .u8 0)
theorem make_zero (n : Nat) (hn : n ≤ 140737488351232) (w : World) : (Instr.makeSlice 22 (.int .i64 (n : Int)) (.int .i64 (n : Int))).run Tryd.prog w = .ok (.slice (some ⟨w.heap.size, 0, none⟩) n n) (w.alloc (.cells (zeroV n).toArray 5)) := by
  obtain ⟨i, h1, h2, h3, h4⟩ := info_parts info_byte
  have hb2 : (i.bytes : Int) * (n : Int) ≤ 281474976710656 := by rw [h4]; omega
  have := run_make (P := Tryd.prog) w 22 5 i (.int .u8 0) Tryd.underlying22 h1 h2 .i64 .i64 n n (by omega) (by omega) hb2 (by omega)
  have e : madeCells (Value.int .u8 0).cells (n * i.size) = (zeroV n).toArray := by
    rw [h3, Nat.mul_one]
    apply Array.toList_inj.1
    exact toList_madeCells_one _ _
  simpa [e] using this
theorem zeroV_bt (n : Nat) : zeroV n = btV (List.replicate n 0) := by simp [zeroV, btV]
theorem zeroRow_len : zeroRow.length = 512 := List.length_replicate
/-- Bytes copied over zeros. -/
theorem splice_row (r : List Int) (n : Nat) (h : r.length = n) : splice (zeroV n) 0 (btV r) = btV r := by
  simp [splice, zeroV, btV_len, h]
theorem splice_none (n : Nat) : splice (zeroV n) 0 (btV []) = btV (List.replicate n 0) := by
  rw [← zeroV_bt]; simp [splice, btV]
theorem zeroV_len (n : Nat) : (zeroV n).length = n := by simp [zeroV]
attribute [irreducible] zeroV
theorem size_byte' : (Tryd.prog.info? 5).map (·.size) = some 1 := by kernel_rfl
theorem zero_row (w : World) : (zeroValue 22).run Tryd.prog w = .ok (.slice none 0 0) w := by kernel_rfl
/-- What is looked up where a sector is read: the row that stands there, or nothing. -/
structure Found (w : World) (v : Value) (r : List Int) (full : Bool) : Prop where
  none_ : full = false → v = .slice none 0 0
  some_ : full = true → ∃ g c, v = .slice (some ⟨g, 0, none⟩) r.length c ∧ InB w (some ⟨g, 0, none⟩) r
theorem BoxOf.found {w : World} {B g N : Nat} {d : Dk} {s : Spot} (h : BoxOf w B g d N s) (k : Nat) (hk : k < d.many) : ∃ v full, (Instr.lookup 69 (.map (some s.nb)) (.int .i64 (k : Int)) false).run Tryd.prog w = .ok v w ∧ Found w v (d.look k) full ∧ (full = false → d.look k = zeroRow) := by
  have hm := h.many
  obtain ⟨v, ps, hrun, hv⟩ := h.mapN.lookup keyK Tryd.underlying69 (zero_row w) rowR_nil (key_at (k := (k : Int)) (by unfold okInt; omega))
  rcases h.isN.look k hv with ⟨h1, h2⟩ | ⟨r, h1, h2⟩
  · exact ⟨v, false, hrun, ⟨fun _ => h2, fun e => (by cases e)⟩, fun _ => by unfold Dk.look; rw [h1]; rfl⟩
  · have e : d.look k = r := by unfold Dk.look; rw [h1]; rfl
    rw [e]
    obtain ⟨a, c, e2, hin, -⟩ := h2.1.shape
    obtain ⟨g', c', e3, -, -⟩ := h2.form
    rw [e3] at e2
    injection e2 with e4 e5 e6
    subst e4
    exact ⟨v, true, hrun, ⟨fun e => (by cases e), fun _ => ⟨g', c', e3, hin⟩⟩, fun e => (by cases e)⟩
theorem row_made {w : World} {B b : Nat} {r : List Int} (hl : r.length = 512) (hg : w.heap[b]? = some (.cells (btV r).toArray 5)) (hB : B ≤ b) : RowAt w B (.slice (some ⟨b, 0, none⟩) 512 512) r := by
  have e : (btV r).length = 512 := by rw [btV_len]; exact hl
  refine ⟨⟨by rw [hl, e], .inr ⟨b, 512, _, by rw [hl], hB, hg, by omega, by unfold maxLen; omega, by simp [e], by rw [List.take_of_length_le (by simp [e, hl])]⟩⟩, by omega⟩
set_option maxHeartbeats 4000000 in
theorem sector_any (h g : Nat) (k : Nat) (w : World) (B N : Nat) (d : Dk) (hk : k < d.many) (hh : w.cell? ⟨h, 0, none⟩ = some (.pointer (some ⟨g, 0, none⟩))) (hb : BoxAt w B g d N) :
    Calls Tryd.prog 19 #[.pointer (some ⟨h, 0, none⟩), .int .i64 (k : Int)] w fun e w' => ∃ v, e = .returned v ∧ RowAt w' w.heap.size v (d.look k) ∧ Below w.heap.size w w' := by
  obtain ⟨hok, s, hb⟩ := hb
  obtain ⟨q0, q1, q2, q3, q4, q5, q6, q7⟩ := boxC_get d s.sb s.nb s.wv
  have c0 := (hb.cells 0).trans q0
  have hm := hb.many
  have hmk : ∀ w : World, (Instr.makeSlice 22 (.int .i64 512) (.int .i64 512)).run Tryd.prog w = .ok (.slice (some ⟨w.heap.size, 0, none⟩) 512 512) (w.alloc (.cells (zeroV 512).toArray 5)) := fun w => by have := make_zero 512 (by omega) w; simpa using this
  have HB := Lib.hid (hb.then_ (below1 w (.cells (zeroV 512).toArray 5)))
  have hh1 := ((below1 w (.cells (zeroV 512).toArray 5)).cell (p := ⟨h, 0, none⟩) (cell_lt hh)).trans hh
  have c2 := (HB.out.cells 2).trans q2
  obtain ⟨v, full, hrun, hf, hz⟩ := HB.out.found k hk
  have HF := Lib.hid (And.intro hf hz)
  have HL := Lib.hid (hok.look_len k)
  clear q0 q1 q2 q3 q4 q5 q6 q7 hf hz hb
  have hlt : ¬ ((d.many : Int) ≤ (k : Int)) := by omega
  cases full
  · obtain rfl := HF.out.1.none_ rfl
    go_enter Tryd.func19, Tryd.ntmps19
    go_wp2_with (show wpList _ _ _ (⟨some 30, _, _, _, _, _⟩ :: _) _ _; refine wpList_copy_splice (o := ⟨some 30, _, _, _, _, _⟩) rfl (.tmp 20) (.tmp 29) 22 22 rfl 5 Tryd.underlying22 size_byte' _ _ _ _ _ _ rfl rfl w.heap.size 0 (zeroV 512) 5 (heap_alloc_new w _) (btV []) (Nat.zero_min _).symm (fun hp => absurd hp (by simp [btV])) (by simp [btV]) (btV_one []) w.heap.size w (below1 w _) (Nat.le_refl _) ?_; intro w2 hg2 hb2; have HG2 := Lib.hid hg2; have HB2 := Lib.hid hb2; clear hg2 hb2)
    go_ret
    refine ⟨_, rfl, ?_, HB2.out⟩
    have e := HG2.out
    rw [splice_none] at e
    rw [HF.out.2 trivial]
    exact row_made zeroRow_len e (Nat.le_refl _)
  · obtain ⟨g2, c3, rfl, hin⟩ := HF.out.1.some_ rfl
    have HI := Lib.hid hin
    have HS := Lib.hid (splice_row (d.look k) 512 HL.out)
    clear hin
    go_enter Tryd.func19, Tryd.ntmps19
    go_wp2_with (show wpList _ _ _ (⟨some 30, _, _, _, _, _⟩ :: _) _ _; refine wpList_copy_splice (o := ⟨some 30, _, _, _, _, _⟩) rfl (.tmp 20) (.tmp 29) 22 22 rfl 5 Tryd.underlying22 size_byte' _ _ _ _ _ _ rfl rfl w.heap.size 0 (zeroV 512) 5 (heap_alloc_new w _) (btV (d.look k)) (by rw [btV_len, HL.out]; exact (Nat.min_self _).symm) (fun hp => ⟨rfl, HI.out.src (Below.refl _ _) (by rw [HL.out]; omega)⟩) (by rw [btV_len, HL.out, zeroV_len]; omega) (btV_one _) w.heap.size w (below1 w _) (Nat.le_refl _) ?_; intro w2 hg2 hb2; have HG2 := Lib.hid hg2; have HB2 := Lib.hid hb2; clear hg2 hb2)
    go_wp2_with fail
    go_ret
    refine ⟨_, rfl, ?_, HB2.out⟩
    have e := HG2.out
    rw [HS.out] at e
    exact row_made HL.out e (Nat.le_refl _)
end Go.Proofs.YtlpnhfceblbllaaDoor
