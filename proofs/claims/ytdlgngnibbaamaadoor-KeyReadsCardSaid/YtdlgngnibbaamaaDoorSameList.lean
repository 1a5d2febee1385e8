/- The contract of SameList: no statement is proved here. -/
import Derived.Test.YtdlgngnibbaamaaDoorSame
namespace Go.Proofs.YtdlgngnibbaamaaDoor
open Go.RowKit
set_option maxRecDepth 100000

theorem vals_at {l l' : List T} (h : l.map T.val = l'.map T.val) {k : Nat} {x y : T} (hx : l[k]? = some x) (hy : l'[k]? = some y) : x.val = y.val := by
  have := congrArg (·[k]?) h
  simpa [hx, hy] using this
set_option maxHeartbeats 2000000 in
theorem sameList_any (la lb : Option Addr) (ca cb n : Nat) (a b : List T) (w : World) (hn : a.length = n) (hm : b.length = n) (ha : InL w la a) (hb : InL w lb b) (hl : n ≤ 9223372036854775807) (oa : ∀ x ∈ a, x.ok) (ob : ∀ x ∈ b, x.ok) (he : a.map T.val = b.map T.val) :
    Calls Tryd.prog 34 #[.slice la n ca, .slice lb n cb] w fun e w' => e = .returned (.bool true) ∧ Below w.heap.size w w' := by
  have HN := Lib.hid hn
  have HM := Lib.hid hm
  have HA := Lib.hid ha
  have HB := Lib.hid hb
  have OA := Lib.hid oa
  have OB := Lib.hid ob
  have HE := Lib.hid he
  clear hn hm ha hb oa ob he
  have hne : ((n : Int) != (n : Int)) = false := by simp
  go_enter Tryd.func34, Tryd.ntmps34
  go_wp2_with fail
  go_loopw [5, 6] (fun i _ wr => ∃ k : Nat, k ≤ n ∧ i = .int .i64 k ∧ Below w.heap.size w wr) (fun i _ _ => n - (intOf i).toNat)
  case atStart => exact ⟨0, by omega, rfl, Below.refl _ _⟩
  case round =>
    obtain ⟨k, hk, rfl, hbel⟩ := hrel
    by_cases h1 : k < n
    · obtain ⟨bx, ox, kx, nx, sx, lax, lcx, lx, dax, dcx, dx, rfl, hx, hix, x0, x1, x2, x3, x4⟩ := (HA.out.then_ hbel).five (i := k) (by have := HN.out; omega)
      obtain ⟨b2, o2, ky, ny, sy, lay, lcy, ly, day, dcy, dy, rfl, hy, hiy, y0, y1, y2, y3, y4⟩ := (HB.out.then_ hbel).five (i := k) (by have := HM.out; omega)
      have H := Lib.hid (fun w => same_any _ _ w (OA.out _ (List.mem_of_getElem? hx)) (OB.out _ (List.mem_of_getElem? hy)))
      have HV := Lib.hid ((sameV_iff _ _).2 (vals_at HE.out hx hy))
      clear hx hy
      go_wp2_with fail
      go_still_tail 8, (by kernel_rfl)
      change wpList _ _ _ _ _ wr.drew
      go_wp2_with fail
      refine (H.out wr.drew hix hiy).mono ?_
      rintro e w1 ⟨rfl, b0⟩
      rw [HV.out]
      have b1 : Below wr.heap.size wr w1 := ⟨b0.os, b0.tape, b0.output, b0.size, b0.block⟩
      clear b0 x0 x1 x2 x3 x4 y0 y1 y2 y3 y4 hix hiy
      go_wp2_with fail
      go_roundw
      case rel => exact ⟨k + 1, by omega, by go_num, below_then hbel b1⟩
      case measure => simp [intOf]; omega
    · go_wp2_with fail
      go_ret
      exact ⟨rfl, hbel⟩
end Go.Proofs.YtdlgngnibbaamaaDoor
