/- The contracts of met and Reach: no statement is proved here. -/
import Derived.Test.YtkklnfihjikilaaDoorPathMeet2
namespace Go.Proofs.YtkklnfihjikilaaDoor
open Go.RowKit Go.Shelf
set_option maxRecDepth 100000
attribute [local go_sem] Oper.semAt_some

theorem yield_any {m m' : Nat} {P : Program} {l : Nat} {args : Array Value} {W : World} {R : Ending → World → Prop} (h : YieldAt Fence.wide m P l args W R) : YieldAt Fence.wide m' P l args W R := by
  obtain ⟨fn, tmps, assign, body, hy, hR⟩ := h
  exact ⟨fn, tmps, assign, body, hy, hR.1, fun c cs _ => hR.2 c cs (room_wide _)⟩
theorem below_grown {X Y : World} (h : Below X.heap.size X Y) : X.grownBy Y none := ⟨h.os, h.tape, h.output, h.size, fun k hk _ => h.block k hk⟩
theorem met_any (t : T) (pa : Option Addr) (n c : Nat) (w : World) : Calls Tryd.prog 44 #[t.arg, .slice pa n c] w fun e w' => e = .returned (.func (.func 63) #[] #[.pointer (some ⟨w.heap.size + 1, 0, none⟩), .pointer (some ⟨w.heap.size, 0, none⟩)]) ∧ w' = (w.alloc (.cells t.cells.toArray 31)).alloc (.cells #[.slice pa n c] 23) := by
  obtain ⟨kx, nx, sx, lax, lcx, lx, dax, dcx, dx⟩ := t
  show Calls _ _ #[.agg #[.int .i64 kx, .int .i64 nx, .string sx, .slice lax lx.length lcx, .slice dax dx.length dcx], .slice pa n c] _ _
  go_enter Tryd.func44, Tryd.ntmps44
  go_wp2_with fail
  go_ret
  exact ⟨rfl, rfl⟩
def reachS (v : V) (ps : List ByteArray) : List V := if 10 < ps.length then [] else metV v ps
/-- What the iterator that met hands back yields. -/
theorem met_stops (w0 : World) (B vb pb : Nat) (t : T) (ok : t.ok) (hin : t.In w0) (pa : Option Addr) (pc : Nat) (ps : List ByteArray) (hps : Parts w0 pa pc ps) (w : World) (hw : Below w0.heap.size w0 w) (hB : LOk B w)
    (hv : w.heap[vb]? = some (.cells t.cells.toArray 31 (0, 0))) (hp : w.heap[pb]? = some (.cells #[.slice pa ps.length pc] 23 (0, 0))) :
    SeqStopsK Fence.wide 4 Tryd.prog 63 #[.pointer (some ⟨pb, 0, none⟩), .pointer (some ⟨vb, 0, none⟩)] (fun x : Lain w0 => #[x.1.arg]) (Keep w0.heap.size B) (fun ys => valsOf ys = reachS t.val ps) (fun pre => valsOf pre <+: reachS t.val ps) (reachS t.val ps).length w := by
  intro l J Jx W hW hJ hJx hY h0
  have HR := Lib.hid (fun (h : ps.length ≤ 10) => (show Rounds w0 B l (metV t.val ps).length J Jx from ⟨fun m pre x W1 hj hl => yield_any (hY pre x W1 hj (by rw [reachS, if_neg (by omega)]; exact hl)), fun pre X Y hj hb => hJ pre X Y none hj (below_grown hb) (fun r e => by cases e), fun pre X Y hj hb => hJx pre X Y none hj (below_grown hb) (fun r e => by cases e)⟩))
  have HM := Lib.hid (fun h => meet_any w0 B l _ J Jx (HR.out h) t ok hin)
  have H0 := Lib.hid h0
  have HP := Lib.hid hps
  have hW0 := Lib.hid (hw.trans (hW.mono hw.size))
  have hLO := Lib.hid (hB.below hW)
  have cv := row_cells (row_then hv hW)
  have cp := row_cells (row_then hp hW)
  clear hY h0 hps hv hp
  refine callsIn_wide.2 ?_
  show Calls _ _ #[.func (.yield l) #[] #[], .pointer (some ⟨pb, 0, none⟩), .pointer (some ⟨vb, 0, none⟩)] _ _
  obtain ⟨kx, nx, sx, lax, lcx, lx, dax, dcx, dx⟩ := t
  dsimp only [T.cells] at cv
  by_cases h10 : ps.length ≤ 10
  · have h10b : decide ((10 : Int) < (ps.length : Int)) = false := decide_eq_false (by omega)
    go_enter Tryd.func63, Tryd.ntmps63
    go_wp2_with (first
      | (go_at_call 28; refine (tooMany_any _ _ _ _).mono ?_; rintro e w1 ⟨rfl, rfl⟩; rw [h10b])
      | (go_at_call 64; refine (HM.out h10 ps pa pc [] _ HP.out hW0.out hLO.out H0.out (by simp)).mono ?_; rintro e w1 (⟨rfl, b1, q1, hq1, hj1⟩ | ⟨rfl, q1, hq1, hj1⟩)))
    · go_end0
      exact ⟨⟨_, rfl⟩, .inl ⟨q1, by rw [hq1, reachS, if_neg (by omega)], by simpa using hj1⟩⟩
    · go_end0
      exact ⟨⟨_, rfl⟩, .inr ⟨q1, by rw [reachS, if_neg (by omega)]; exact hq1, by simpa using hj1⟩⟩
  · have h10b : decide ((10 : Int) < (ps.length : Int)) = true := decide_eq_true (by omega)
    go_enter Tryd.func63, Tryd.ntmps63
    go_wp2_with (go_at_call 28; refine (tooMany_any _ _ _ _).mono ?_; rintro e w1 ⟨rfl, rfl⟩; rw [h10b])
    go_end0
    exact ⟨⟨_, rfl⟩, .inl ⟨[], by rw [reachS, if_pos (by omega)]; rfl, H0.out⟩⟩
end Go.Proofs.YtkklnfihjikilaaDoor
