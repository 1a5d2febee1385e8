/- Nodes of layer 5: what stands for itself. No statement is proved here. -/
import Derived.Test.YtcpbdmgkeljkgaaGreatDoorEEv
namespace Go.Proofs.YtcpbdmgkeljkgaaGreatDoor
open Go.RowKit
set_option maxRecDepth 100000

theorem in_block {w : World} {t : T} (h : t.In w) : ∀ p ∈ t.places, p.1.block < w.heap.size := fun p hp => World.block_lt_of_cell? w p.1 (h p hp)
theorem plain_ev {W : World} (d t : T) (hin : t.In W) (ok : t.ok) : Ev W d 65 t.arg 0 (fun r => r = t) 0 := by
  obtain ⟨k, m, s, la, lc, l, da, dc, f⟩ := t
  refine ⟨257, ⟨fun w => by kernel_rfl, fun args w => by kernel_rfl⟩, fun w g gb n hb hg hw hn => ?_⟩
  have hlt := in_block hin
  have hwh := hb.size
  have hbel := (below1 w (.cells #[.int .i64 k, .int .i64 m, .string s, .slice la l.length lc, .slice da f.length dc] 65 (0, 0)))
  have hbel2 := below_then hbel (below1 _ (.cells #[.int .i64 k, .int .i64 m, .string s, .slice la l.length lc, .slice da f.length dc] 28 (0, 0)))
  have hres : EvTo W.heap.size g gb (n + 0) (fun r => r = T.mk k m s la lc l da dc f) 0 w (.returned (.tuple #[T.arg (.mk k m s la lc l da dc f), .int .i64 0])) _ :=
    ⟨_, rfl, rfl, ok, hin.then_ (below_then hb hbel2), fun p hp => .inl (hlt p hp), Only.of_below hbel2, row_then hw.row hbel2⟩
  have HR := Lib.hid hres
  have hq := row_cells (heap_alloc_new (w.alloc (.cells #[.int .i64 k, .int .i64 m, .string s, .slice la l.length lc, .slice da f.length dc] 65 (0, 0))) (.cells #[.int .i64 k, .int .i64 m, .string s, .slice la l.length lc, .slice da f.length dc] 28 (0, 0)))
  clear hres hw hbel hbel2 hb
  show Calls _ _ #[.agg #[.int .i64 k, .int .i64 m, .string s, .slice la l.length lc, .slice da f.length dc], .pointer (some ⟨g, 0, none⟩)] _ _
  go_enter Tryz.func257, Tryz.ntmps257
  go_wp2_with fail
  simp [bodyPost, results, Tryz.results257, go_sem]
  exact HR.out
end Go.Proofs.YtcpbdmgkeljkgaaGreatDoor
