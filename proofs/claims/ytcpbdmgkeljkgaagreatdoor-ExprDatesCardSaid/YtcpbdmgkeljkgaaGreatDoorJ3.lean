/- Reading: a field of the document. Reading: a field of the document, as a node. No statement is proved here. -/
import Derived.Test.YtcpbdmgkeljkgaaGreatDoorERt
import Derived.Test.YtcpbdmgkeljkgaaGreatDoorENo
import Derived.Test.YtcpbdmgkeljkgaaGreatDoorEVa
namespace Go.Proofs.YtcpbdmgkeljkgaaGreatDoor
open Go.RowKit
set_option maxRecDepth 100000

theorem place_root (gs : Nat) (w : World) (hs : ScopeAt w gs) : Calls Tryz.prog 43 #[.slice (some ⟨gs, 0, none⟩) 1 1, .string ⟨#[82, 79, 79, 84]⟩] w fun e w' => e = .returned (.int .i64 0) ∧ w' = w := by
  unfold ScopeAt at hs
  go_enter Tryz.func43, Tryz.ntmps43
  go_wp2_with fail
  go_loopw [5] (fun i wr => i = .int .i64 0 ∧ wr = w) (fun i _ => (intOf i).toNat)
  case atStart => exact ⟨rfl, rfl⟩
  case round =>
    obtain ⟨rfl, rfl⟩ := hrel
    go_wp2_with fail
    go_ret
    exact ⟨rfl, rfl⟩
/-- The node of a field, or none. -/
def FieldTo (s : ByteArray) (w : World) (e : Ending) (w' : World) : Prop :=
  Below w.heap.size w w' ∧ ((splitOk s = false ∧ e = .returned .nilIface) ∨ (splitOk s = true ∧ ∃ g c, w.heap.size ≤ g ∧ e = .returned (.iface 91 (.agg #[.int .i64 0, .slice (some ⟨g, 0, none⟩) (splitP s).length c])) ∧ (splitP s).length ≤ c ∧ c ≤ 11 ∧ w'.heap[g]? = some (.cells (Lib.cellsOf (splitP s) c) 9 (0, 0))))
set_option maxHeartbeats 4000000 in
theorem readField_any (s : ByteArray) (hs : s.size < 4294967281) (gs : Nat) (w : World) (henv : EnvR w) (hsc : ScopeAt w gs) : Calls Tryz.prog 34 #[.string s, .slice (some ⟨gs, 0, none⟩) 1 1] w (FieldTo s w) := by
  obtain ⟨hT, m, hm⟩ := henv
  have HS := Lib.hid (split_any s hs w hT m hm)
  have HSC := Lib.hid hsc
  clear hT hm hsc
  go_enter Tryz.func34, Tryz.ntmps34
  go_wp2_with fail
  refine HS.out.mono ?_
  rintro e w1 ⟨b1, ⟨ho, rfl⟩ | ⟨ho, g, c, hg, rfl, hc1, hc2, hrow⟩⟩
  · go_wp2_with fail
    go_ret
    exact ⟨b1, .inl ⟨ho, rfl⟩⟩
  · have HP := Lib.hid (place_root gs w1 (HSC.out.then_ b1))
    go_wp2_with fail
    refine HP.out.mono ?_
    rintro e w2 ⟨rfl, rfl⟩
    go_wp2_with fail
    go_ret
    exact ⟨b1, .inr ⟨ho, g, c, hg, rfl, hc1, hc2, hrow⟩⟩
theorem readText_field (s : ByteArray) (hs1 : s.size ≤ 4294967000) (hs2 : 1 ≤ s.size) (h1 : Lib.hasPrefix s.data.toList [36, 36] = false) (h2 : Lib.hasPrefix s.data.toList [36] = true) (gs : Nat) (w : World) (henv : EnvR w) (hsc : ScopeAt w gs) :
    Calls Tryz.prog 21 #[.agg #[.int .i64 4, .int .i64 0, .string s, .slice none 0 0, .slice none 0 0], .slice (some ⟨gs, 0, none⟩) 1 1] w (FieldTo (s.extract 1 s.size) w) := by
  have H1 := Lib.hid (fun w => cut_no (s := s) (p := ⟨#[36, 36]⟩) h1 w)
  have H2 := Lib.hid (fun w => cut_yes (s := s) (p := ⟨#[36]⟩) h2 rfl hs2 (by omega) w)
  have hz : (s.extract 1 s.size).size < 4294967281 := by rw [ByteArray.size_extract]; omega
  have HF := Lib.hid (fun (x : Obj) => readField_any (s.extract 1 s.size) hz gs (w.alloc x) (henv.then_ (below1 w x)) (hsc.then_ (below1 w x)))
  generalize s.extract 1 s.size = way at H2 HF
  clear henv hsc hz
  go_enter Tryz.func21, Tryz.ntmps21
  go_wp2_with fail
  refine (H1.out _).mono ?_
  rintro e w1 ⟨rfl, rfl⟩
  go_wp2_with fail
  refine (H2.out _).mono ?_
  rintro e w1 ⟨rfl, rfl⟩
  go_wp2_with fail
  refine (HF.out _).mono ?_
  rintro e w1 ⟨b1, ⟨ho, rfl⟩ | ⟨ho, g, c, hg, rfl, hc1, hc2, hrow⟩⟩
  · go_wp2_with fail
    go_ret
    exact ⟨below_then (below1 _ _) b1, .inl ⟨ho, rfl⟩⟩
  · go_wp2_with fail
    go_ret
    exact ⟨below_then (below1 _ _) b1, .inr ⟨ho, g, c, Nat.le_trans (by simp) hg, rfl, hc1, hc2, hrow⟩⟩
theorem read_field (s : ByteArray) (hs1 : s.size ≤ 4294967000) (hs2 : 1 ≤ s.size) (h1 : Lib.hasPrefix s.data.toList [36, 36] = false) (h2 : Lib.hasPrefix s.data.toList [36] = true) (gs : Nat) (w : World) (henv : EnvR w) (hsc : ScopeAt w gs) :
    Calls Tryz.prog 16 #[(txtT s).arg, .slice (some ⟨gs, 0, none⟩) 1 1] w (FieldTo (s.extract 1 s.size) w) := by
  rw [txtT_arg]
  have HF := Lib.hid (fun (x : Obj) => readText_field s hs1 hs2 h1 h2 gs (w.alloc x) (henv.then_ (below1 w x)) (hsc.then_ (below1 w x)))
  generalize s.extract 1 s.size = way at HF
  clear henv hsc
  go_enter Tryz.func16, Tryz.ntmps16
  go_wp2_with fail
  refine (HF.out _).mono ?_
  rintro e w1 ⟨b1, ⟨ho, rfl⟩ | ⟨ho, g, c, hg, rfl, hc1, hc2, hrow⟩⟩
  · go_wp2_with fail
    go_ret
    exact ⟨below_then (below1 _ _) b1, .inl ⟨ho, rfl⟩⟩
  · go_wp2_with fail
    go_ret
    exact ⟨below_then (below1 _ _) b1, .inr ⟨ho, g, c, Nat.le_trans (by simp) hg, rfl, hc1, hc2, hrow⟩⟩
end Go.Proofs.YtcpbdmgkeljkgaaGreatDoor
namespace Go.Proofs.YtcpbdmgkeljkgaaGreatDoor
open Go.RowKit
set_option maxRecDepth 100000

theorem reads_field (gd dc : Nat) (p : ByteArray) (m : Int) (hm : in64 m) (s : ByteArray) (hs1 : s.size ≤ 4294967000) (hs2 : 1 ≤ s.size) (h1 : Lib.hasPrefix s.data.toList [36, 36] = false) (h2 : Lib.hasPrefix s.data.toList [36] = true) (ho : splitOk (s.extract 1 s.size) = true) (hp : splitP (s.extract 1 s.size) = [p]) :
    Reads (oneDoc gd dc p m) (txtT s) 0 (fun r => r = intT m) 0 := by
  intro w gs henv hsc hin
  refine (read_field s hs1 hs2 h1 h2 gs w henv hsc).mono ?_
  rintro e w' ⟨b, ⟨h, -⟩ | ⟨-, g, c, hg, rfl, hc1, hc2, hrow⟩⟩
  · rw [ho] at h; cases h
  · rw [hp] at hrow hc1 ⊢
    refine ⟨_, _, rfl, b, fun S W' hS hO => var_ev gd dc g c p m hm ⟨hc1, by omega⟩ ?_⟩
    have h1 := cell_of_row w' g 0 _ _ _ hrow
    rw [cells_at (show ([p] : List ByteArray)[0]? = some p from rfl)] at h1
    exact cell_onlyS h1 hO (fun hc => by have := (hS g hc).1; omega)
end Go.Proofs.YtcpbdmgkeljkgaaGreatDoor
