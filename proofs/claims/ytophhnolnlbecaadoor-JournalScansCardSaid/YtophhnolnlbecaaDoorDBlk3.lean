/- Package block's Disk.Read: its contract. No statement is proved here. -/
import Derived.Test.YtophhnolnlbecaaDoorQ12
namespace Go.Proofs.YtophhnolnlbecaaDoor
open Go.RowKit
open Go.Maps (Keyed IsMap Tidy)
set_option maxRecDepth 100000

/-- An error number as the interface value that it is. -/
def errV (n : Int) : Value := if n = 0 then .nilIface else .iface 25 (.int .i64 n)
theorem errV_zero : errV 0 = .nilIface := rfl
theorem errV_mk {n : Int} (h : n ≠ 0) : errV n = .iface 25 (.int .i64 n) := if_neg h
/-- What a sector's reading tells. -/
def ReadAt (d : Dk) (at_ : Int) (w : World) (e : Ending) (w' : World) : Prop := ∃ v, e = .returned (.tuple #[v, errV (d.readE at_)]) ∧ (d.readE at_ ≠ 0 → v = .slice none 0 0) ∧ (d.readE at_ = 0 → RowAt w' w.heap.size v (d.look at_.toNat)) ∧ Below w.heap.size w w'
theorem ReadAt.bad {d : Dk} {at_ : Int} {w : World} {n : Int} (h : d.readE at_ = n) (hn : n ≠ 0) : ReadAt d at_ w (.returned (.tuple #[.slice none 0 0, .iface 25 (.int .i64 n)])) w :=
  ⟨_, by rw [h, errV_mk hn], fun _ => rfl, fun h0 => absurd (h.symm.trans h0) hn, Below.refl _ _⟩
theorem ReadAt.good {d : Dk} {k : Nat} {w w' : World} {v : Value} (h : d.readE (k : Int) = 0) (hr : RowAt w' w.heap.size v (d.look k)) (hb : Below w.heap.size w w') : ReadAt d (k : Int) w (.returned (.tuple #[v, .nilIface])) w' :=
  ⟨_, by rw [h, errV_zero], fun h0 => absurd h h0, fun _ => hr, hb⟩
set_option maxHeartbeats 4000000 in
theorem dread_any (h g : Nat) (at_ : Int) (w : World) (B : Base) (N : Nat) (d : Dk) (ha : okInt at_) (hh : w.cell? ⟨h, 0, none⟩ = some (.pointer (some ⟨g, 0, none⟩))) (hb : BoxAt w B g d N) :
    Calls Tryd.prog 55 #[.pointer (some ⟨h, 0, none⟩), .int .i64 at_] w (ReadAt d at_ w) := by
  obtain ⟨hok, s, hb⟩ := hb
  obtain ⟨q0, q1, q2, q3, q4, q5, q6, q7⟩ := boxC_get d s.sb s.nb s.wv
  have c0 := (hb.cells 0).trans q0
  have c7 := (hb.cells 7).trans q7
  have hm := hb.many
  unfold okInt at ha
  cases hd : d.down
  · rw [hd] at c7
    by_cases h0 : at_ < 0
    · have HE := Lib.hid (ReadAt.bad (w := w) (show d.readE at_ = 1 by unfold Dk.readE; rw [hd, if_neg (by simp), if_neg (by omega)]) (by omega))
      clear hb hd
      go_enter Tryd.func55, Tryd.ntmps55
      go_wp2
      go_ret2
      exact HE.out
    obtain ⟨k, rfl⟩ := Int.eq_ofNat_of_zero_le (show 0 ≤ at_ by omega)
    by_cases hk : k < d.many
    · have HR := Lib.hid (show d.readE (k : Int) = 0 by unfold Dk.readE; rw [hd, if_neg (by simp), if_pos (by omega)])
      have hmk : ∀ w : World, (Instr.makeSlice 22 (.int .i64 512) (.int .i64 512)).run Tryd.prog w = .ok (.slice (some ⟨w.heap.size, 0, none⟩) 512 512) (w.alloc (.cells (zeroV 512).toArray 5)) := fun w => by have := make_zero 512 (by omega) w; simpa using this
      have HB := Lib.hid (hb.then_ (below1 w (.cells (zeroV 512).toArray 5)))
      have hh1 := ((below1 w (.cells (zeroV 512).toArray 5)).cell (p := ⟨h, 0, none⟩) (cell_lt hh)).trans hh
      have c2 := (HB.out.cells 2).trans q2
      obtain ⟨v, full, hrun, hf, hz⟩ := HB.out.found k hk
      have HF := Lib.hid (And.intro hf hz)
      have HL := Lib.hid (hok.look_len k)
      clear q0 q1 q2 q3 q4 q5 q6 q7 hf hz hb hd
      cases full
      · obtain rfl := HF.out.1.none_ rfl
        go_enter Tryd.func55, Tryd.ntmps55
        go_wp2_with (show wpList _ _ _ (⟨some 42, _, _, _, _, _⟩ :: _) _ _; refine wpList_copy_splice (o := ⟨some 42, _, _, _, _, _⟩) rfl (.tmp 32) (.tmp 41) 22 22 rfl 5 Tryd.underlying22 size_byte' _ _ _ _ _ _ rfl rfl w.heap.size 0 (zeroV 512) 5 (heap_alloc_new w _) (btV []) (Nat.zero_min _).symm (fun hp => absurd hp (by simp [btV])) (by simp [btV]) (btV_one []) w.heap.size w (below1 w _) (Nat.le_refl _) ?_; intro w2 hg2 hb2; have HG2 := Lib.hid hg2; have HB2 := Lib.hid hb2; clear hg2 hb2)
        go_ret2
        refine ReadAt.good HR.out ?_ HB2.out
        have e := HG2.out
        rw [splice_none] at e
        rw [HF.out.2 trivial]
        exact row_made zeroRow_len e (Nat.le_refl _) (by simp)
      · obtain ⟨g2, c3, rfl, hin⟩ := HF.out.1.some_ rfl
        have HI := Lib.hid hin
        have HS := Lib.hid (splice_row (d.look k) 512 HL.out)
        clear hin
        go_enter Tryd.func55, Tryd.ntmps55
        go_wp2_with (show wpList _ _ _ (⟨some 42, _, _, _, _, _⟩ :: _) _ _; refine wpList_copy_splice (o := ⟨some 42, _, _, _, _, _⟩) rfl (.tmp 32) (.tmp 41) 22 22 rfl 5 Tryd.underlying22 size_byte' _ _ _ _ _ _ rfl rfl w.heap.size 0 (zeroV 512) 5 (heap_alloc_new w _) (btV (d.look k)) (by rw [btV_len, HL.out]; exact (Nat.min_self _).symm) (fun hp => ⟨rfl, HI.out.src (Below.refl _ _) (by rw [HL.out]; omega)⟩) (by rw [btV_len, HL.out, zeroV_len]; omega) (btV_one _) w.heap.size w (below1 w _) (Nat.le_refl _) ?_; intro w2 hg2 hb2; have HG2 := Lib.hid hg2; have HB2 := Lib.hid hb2; clear hg2 hb2)
        go_ret2
        refine ReadAt.good HR.out ?_ HB2.out
        have e := HG2.out
        rw [HS.out] at e
        exact row_made HL.out e (Nat.le_refl _) (by simp)
    · have HE := Lib.hid (ReadAt.bad (w := w) (show d.readE (k : Int) = 1 by unfold Dk.readE; rw [hd, if_neg (by simp), if_neg (by omega)]) (by omega))
      clear hb hd
      go_enter Tryd.func55, Tryd.ntmps55
      go_wp2
      go_ret2
      exact HE.out
  · rw [hd] at c7
    have HE := Lib.hid (ReadAt.bad (w := w) (show d.readE at_ = 5 by unfold Dk.readE; rw [hd, if_pos rfl]) (by omega))
    clear hb hd
    go_enter Tryd.func55, Tryd.ntmps55
    go_wp2
    go_ret2
    exact HE.out
end Go.Proofs.YtophhnolnlbecaaDoor
