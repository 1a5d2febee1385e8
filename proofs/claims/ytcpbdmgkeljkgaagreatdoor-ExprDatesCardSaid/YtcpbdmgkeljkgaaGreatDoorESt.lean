/- Which values are nothing; whether a list has one; what a call may come to. No statement is proved here. -/
import Derived.Test.YtcpbdmgkeljkgaaGreatDoorEAl
import Derived.Test.YtcpbdmgkeljkgaaGreatDoorSize
namespace Go.Proofs.YtcpbdmgkeljkgaaGreatDoor
open Go.RowKit
set_option maxRecDepth 100000

def nothT (t : T) : Bool := (match t with | .mk k _ _ _ _ _ _ _ _ => decide (k = 2)) || misT t
set_option maxHeartbeats 2000000 in
theorem nothing_any (t : T) (w : World) : Calls Tryz.prog 187 #[t.arg] w fun e w' => e = .returned (.bool (nothT t)) ∧ Below w.heap.size w w' := by
  have HM := Lib.hid (fun W => missing_any t W)
  obtain ⟨k, m, s, la, lc, l, da, dc, f⟩ := t
  dsimp only [T.arg, T.cells] at HM
  show Calls _ _ #[.agg #[.int .i64 k, .int .i64 m, .string s, .slice la l.length lc, .slice da f.length dc]] _ _
  by_cases h2 : k = 2
  · subst h2
    go_enter Tryz.func187, Tryz.ntmps187
    go_wp2_with fail
    go_ret
    exact ⟨by simp [nothT], below1 _ _⟩
  · have hk : (k == 2) = false := by simpa using h2
    go_enter Tryz.func187, Tryz.ntmps187
    go_wp2_with fail
    refine (HM.out _).mono ?_
    rintro e w1 ⟨rfl, b1⟩
    go_wp2_with fail
    go_ret
    exact ⟨by simp [nothT, h2], below_then (below1 _ _) b1⟩
/-- Where a list's first value that is nothing stands. -/
def idxN : List T → Int → Int
  | [], _ => -1
  | x :: r, i => if nothT x then i else idxN r (i + 1)
theorem idxN_step {l : List T} {k : Nat} {x : T} (hx : l[k]? = some x) : idxN (l.drop k) k = if nothT x then (k : Int) else idxN (l.drop (k + 1)) (k + 1) := by
  obtain ⟨h1, rfl⟩ := List.getElem?_eq_some_iff.1 hx
  rw [List.drop_eq_getElem_cons h1, idxN]
theorem idxN_ge (l : List T) : ∀ i : Int, 0 ≤ i → (decide (0 ≤ idxN l i)) = l.any nothT := by
  induction l with
  | nil => intro i _; simp [idxN]
  | cons x r ih =>
    intro i hi
    rw [idxN, List.any_cons]
    by_cases h : nothT x
    · simp [h, hi]
    · simp [h, ih (i + 1) (by omega)]
set_option maxHeartbeats 1000000 in
theorem indexN_any (la : Option Addr) (ca : Nat) (l : List T) (w : World) (ha : InL w la l) (hl : l.length ≤ 1759218604390) :
    Calls Tryz.prog 181 #[.slice la l.length ca, .func (.func 187) #[] #[]] w fun e w' => e = .returned (.int .i64 (idxN l 0)) ∧ Below w.heap.size w w' := by
  go_enter Tryz.func181, Tryz.ntmps181
  go_wp2_with fail
  go_loopw [5, 8] (fun _ i wr => ∃ k : Nat, k ≤ l.length ∧ i = .int .i64 k ∧ Below w.heap.size w wr ∧ idxN l 0 = idxN (l.drop k) k) (fun _ i _ => l.length - (intOf i).toNat)
  case atStart => exact ⟨0, by omega, rfl, Below.refl _ _, by simp⟩
  case round =>
    obtain ⟨k, hk, rfl, hbel, heq⟩ := hrel
    have HH := Lib.hid heq
    clear heq
    by_cases h1 : k < l.length
    · obtain ⟨b, o, kx, nx, sx, lax, lcx, lx, dax, dcx, dx, rfl, hx, hix, x0, x1, x2, x3, x4⟩ := (ha.then_ hbel).five h1
      have HT := Lib.hid (idxN_step hx)
      have HN := fun w => nothing_any (T.mk kx nx sx lax lcx lx dax dcx dx) w
      replace HN := Lib.hid HN
      clear hx ha
      by_cases hno : nothT (T.mk kx nx sx lax lcx lx dax dcx dx) = true
      · go_wp2_with (go_at_call 187; refine (HN.out _).mono ?_; rintro e w1 ⟨rfl, hb1⟩; rw [hno])
        go_ret
        exact ⟨ret_int (by rw [HH.out, HT.out, if_pos hno]), below_then hbel hb1⟩
      · have hno2 : nothT (T.mk kx nx sx lax lcx lx dax dcx dx) = false := by simpa using hno
        go_wp2_with (go_at_call 187; refine (HN.out _).mono ?_; rintro e w1 ⟨rfl, hb1⟩; rw [hno2])
        go_roundw
        case rel => exact ⟨k + 1, by omega, by go_num, below_then hbel hb1, by rw [HH.out, HT.out, if_neg hno]; simp⟩
        case measure => simp [intOf]; omega
    · go_wp2_with fail
      go_ret
      exact ⟨ret_int (by rw [HH.out, List.drop_eq_nil_of_le (by omega), idxN]), hbel⟩
theorem containsN_any (la : Option Addr) (ca : Nat) (l : List T) (w : World) (ha : InL w la l) (hl : l.length ≤ 1759218604390) :
    Calls Tryz.prog 140 #[.slice la l.length ca, .func (.func 187) #[] #[]] w fun e w' => e = .returned (.bool (l.any nothT)) ∧ Below w.heap.size w w' := by
  have HI := Lib.hid (indexN_any la ca l w ha hl)
  have HG := Lib.hid (idxN_ge l 0 (by omega))
  clear ha
  go_enter Tryz.func140, Tryz.ntmps140
  go_wp2_with fail
  refine HI.out.mono ?_
  rintro e w1 ⟨rfl, b1⟩
  go_wp2_with fail
  go_ret
  exact ⟨by rw [← HG.out]; rfl, b1⟩
/-- What a call may come to: of a value that is not too big, and no error, that value. -/
theorem small_any (t : T) (ok : t.ok) (hs : sizeV t.val ≤ 65536) (w : World) (hin : t.In w) : Calls Tryz.prog 270 #[t.arg, .int .i64 0] w fun e w' => e = .returned (.tuple #[t.arg, .int .i64 0]) ∧ Below w.heap.size w w' := by
  have HZ := Lib.hid (fun W h => size_any t ok W h)
  have HB := Lib.hid (fun W => tooBig_any (sizeV t.val) W)
  have HI := Lib.hid hin
  obtain ⟨k, m, s, la, lc, l, da, dc, f⟩ := t
  clear hin
  show Calls _ _ #[.agg #[.int .i64 k, .int .i64 m, .string s, .slice la l.length lc, .slice da f.length dc], _] _ _
  go_enter Tryz.func270, Tryz.ntmps270
  have r0 := heap_alloc_new w (.cells #[.int .i64 k, .int .i64 m, .string s, .slice la l.length lc, .slice da f.length dc] 28 (0, 0))
  have b0 := below1 w (.cells #[.int .i64 k, .int .i64 m, .string s, .slice la l.length lc, .slice da f.length dc] 28 (0, 0))
  have hz : (w.alloc (.cells #[.int .i64 k, .int .i64 m, .string s, .slice la l.length lc, .slice da f.length dc] 28 (0, 0))).heap.size = w.heap.size + 1 := by simp
  generalize hU : w.alloc (.cells #[.int .i64 k, .int .i64 m, .string s, .slice la l.length lc, .slice da f.length dc] 28 (0, 0)) = U at r0 b0 hz
  have r1 := heap_alloc_new U (box 0 0)
  have b1 := below_then b0 (below1 U (box 0 0))
  have r2 := row_then r0 (below1 U (box 0 0))
  have hz2 : (U.alloc (box 0 0)).heap.size = w.heap.size + 2 := by simp [hz]
  rw [hz] at r1
  have HU := Lib.hid (And.intro hU (And.intro b1 (And.intro r1 r2)))
  clear hU b0 r0 b1 r1 r2
  go_wp2_with fail
  rw [HU.out.1]
  refine (HZ.out _ (HI.out.then_ HU.out.2.1)).mono ?_
  rintro e w1 ⟨rfl, c1⟩
  have q1 := row_then HU.out.2.2.1 c1
  have q2 := row_then HU.out.2.2.2 c1
  have k1 := row_cells q1
  have k2 := row_cells q2
  have f1 := rowf q1
  have HQ := Lib.hid (And.intro (below_then HU.out.2.1 c1) q1)
  unfold box at k1 f1
  clear q1 q2 c1
  go_wp2_with fail
  refine (HB.out _).mono ?_
  rintro e w2 ⟨rfl, rfl⟩
  rw [if_neg (by omega)]
  go_wp2_with fail
  generalize hV : World.setCell _ _ _ = V'
  obtain ⟨t1, t2⟩ := put5V HQ.out.2 hV
  have q := row_cells t2
  have HF := Lib.hid ((Only.of_below (S := []) HQ.out.1).then_ t1 (fun x hx => .inr (by simp at hx; omega))).below
  clear hV t1 t2 k1 k2 f1
  simp [bodyPost, results, Tryz.results270, go_sem, q]
  exact ⟨rfl, HF.out⟩
theorem small_err (v : Value) (k m : Int) (s : ByteArray) (x y : Value) (hv : v = .agg #[.int .i64 k, .int .i64 m, .string s, x, y]) (err : Int) (he : err ≠ 0) (w : World) : Calls Tryz.prog 270 #[v, .int .i64 err] w fun e w' => e = .returned (.tuple #[scal 0 0, .int .i64 err]) ∧ Below w.heap.size w w' := by
  subst hv
  have h0 : (err == 0) = false := by simpa using he
  have h1 : (err != 0) = true := by simpa [bne] using he
  go_enter Tryz.func270, Tryz.ntmps270
  go_wp2_with fail
  simp [bodyPost, results, Tryz.results270, go_sem]
  exact ⟨rfl, below2 _ _ _⟩
end Go.Proofs.YtcpbdmgkeljkgaaGreatDoor
