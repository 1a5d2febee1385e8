/- The document's own superblock: Choose. No statement is proved here. -/
import Derived.Test.YtonjapphhbhcpaaDoorURef3
namespace Go.Proofs.YtonjapphhbhcpaaDoor
open Go.RowKit
set_option maxRecDepth 100000

/-- What Choose tells. -/
def SChTo (a b : List Int) (w : World) (e : Ending) (w' : World) : Prop := e = .returned (.tuple #[(chS a b).arg, .int .i64 (chE a b)]) ∧ Below w.heap.size w w'
def pick2 (e f : Int) (S T : Sup) : Sup := if e ≠ 0 then (if f ≠ 0 then Sup.zero else T) else if f = 0 ∧ S.ver < T.ver then T else S
theorem ch_pick (a b : List Int) : chS a b = pick2 (sopE a 0) (sopE b 1) (sopS a 0) (sopS b 1) ∧ chE a b = if sopE a 0 ≠ 0 ∧ sopE b 1 ≠ 0 then 140 else 0 := ⟨rfl, rfl⟩
theorem Sup.arg_zero : Sup.zero.arg = .agg #[.int .i64 0, .int .i64 0, .int .i64 0, .int .i64 0] := rfl
set_option maxHeartbeats 8000000 in
theorem rchoose_any (la : Option Addr) (na ca : Nat) (a : List Int) (lb : Option Addr) (nb cb : Nat) (b : List Int) (w : World) (ia : InB w la a) (ba : isB a) (ha : a.length = na) (hca : na ≤ ca) (hla : na ≤ 140737488351232)
    (ib : InB w lb b) (bb : isB b) (hb : b.length = nb) (hcb : nb ≤ cb) (hlb : nb ≤ 140737488351232) :
    Calls Tryd.prog 18 #[.slice la na ca, .slice lb nb cb] w (SChTo a b w) := by
  have HB := Lib.hid (below1 w (.cells #[.int .i64 0, .int .i64 0, .int .i64 0, .int .i64 0] 23))
  have HX := Lib.hid (heap_alloc_new w (.cells #[.int .i64 0, .int .i64 0, .int .i64 0, .int .i64 0] 23))
  have C1 := Lib.hid (fun W (h : Below w.heap.size w W) => ropen14_any 0 la na ca a W (by unfold okInt; omega) (ia.then_ h) ba ha hca hla)
  have C2 := Lib.hid (fun W (h : Below w.heap.size w W) => ropen14_any 1 lb nb cb b W (by unfold okInt; omega) (ib.then_ h) bb hb hcb hlb)
  have HPK := Lib.hid (ch_pick a b)
  clear ia ba ha ib bb hb
  go_enter Tryd.func18, Tryd.ntmps18
  go_wp2_with fail
  refine (C1.out _ HB.out).mono ?_
  rintro e w1 ⟨rfl, b1⟩
  obtain ⟨S, hS⟩ : ∃ S, sopS a 0 = S := ⟨_, rfl⟩
  obtain ⟨e1, he1⟩ : ∃ e, sopE a 0 = e := ⟨_, rfl⟩
  rw [hS, he1]
  have B1 := Lib.hid (below_then HB.out b1)
  have B1s := Lib.hid (below_then B1.out (below1 w1 (.cells S.cells 23)))
  have X1 := Lib.hid (row_then HX.out (below_then b1 (below1 w1 (.cells S.cells 23))))
  have XS := Lib.hid (heap_alloc_new w1 (.cells S.cells 23))
  clear b1
  unfold Sup.arg Sup.cells at *
  go_wp2_with fail
  refine (C2.out _ B1s.out).mono ?_
  rintro e w2 ⟨rfl, b2⟩
  obtain ⟨T, hT⟩ : ∃ T, sopS b 1 = T := ⟨_, rfl⟩
  obtain ⟨e2, he2⟩ : ∃ e, sopE b 1 = e := ⟨_, rfl⟩
  rw [hT, he2]
  have HPK2 := HPK.out
  rw [hS, he1, hT, he2] at HPK2
  have HPK3 := Lib.hid HPK2
  have b24 := below_then b2 (below1 w2 (.cells T.cells 23))
  have B4 := Lib.hid (below_then B1s.out b24)
  have XR := Lib.hid (row_then X1.out b24)
  have XS4 := Lib.hid (row_then XS.out b24)
  have XT4 := Lib.hid (heap_alloc_new w2 (.cells T.cells 23))
  have fr := box_frozen XR.out
  have r0 := row_cells XR.out 0
  have r1 := row_cells XR.out 1
  have r2 := row_cells XR.out 2
  have r3 := row_cells XR.out 3
  obtain ⟨s0, s1, s2, s3⟩ := box4_cells XS4.out
  obtain ⟨t0, t1', t2', t3⟩ := box4_cells XT4.out
  clear b2 b24 hS he1 hT he2 HPK2 HPK
  unfold Sup.arg Sup.cells at *
  by_cases h1 : e1 = 0
  · subst h1
    by_cases h2 : e2 = 0
    · subst h2
      by_cases h3 : S.ver < T.ver
      · have HE : Hid (chS a b = T ∧ chE a b = 0) := Lib.hid ⟨by rw [HPK3.out.1]; unfold pick2; rw [if_neg (by decide), if_pos ⟨rfl, h3⟩], by rw [HPK3.out.2]; simp⟩
        go_wp2_with fail
        generalize hV : World.setCell _ _ _ = V
        obtain ⟨t1, t2⟩ := put4V XR.out hV
        have q := row_cells t2
        have HF := Lib.hid ((Only.of_below (S := []) B4.out).then_ t1 (fun z hz => .inr (by rw [List.mem_singleton.1 hz]; exact Nat.le_refl _))).below
        clear hV t1 t2 fr r0 r1 r2 r3 s0 s1 s2 s3 t0 t1' t2' t3
        simp [bodyPost, results, Tryd.results18, go_sem, q]
        exact ⟨by rw [HE.out.1, HE.out.2]; rfl, HF.out⟩
      · have HE : Hid (chS a b = S ∧ chE a b = 0) := Lib.hid ⟨by rw [HPK3.out.1]; unfold pick2; rw [if_neg (by decide), if_neg (fun h => h3 h.2)], by rw [HPK3.out.2]; simp⟩
        have h3d : decide (S.ver < T.ver) = false := decide_eq_false h3
        go_wp2_with fail
        generalize hV : World.setCell _ _ _ = V
        obtain ⟨t1, t2⟩ := put4V XR.out hV
        have q := row_cells t2
        have HF := Lib.hid ((Only.of_below (S := []) B4.out).then_ t1 (fun z hz => .inr (by rw [List.mem_singleton.1 hz]; exact Nat.le_refl _))).below
        clear hV t1 t2 fr r0 r1 r2 r3 s0 s1 s2 s3 t0 t1' t2' t3
        simp [bodyPost, results, Tryd.results18, go_sem, q]
        exact ⟨by rw [HE.out.1, HE.out.2]; rfl, HF.out⟩
    · have h2b : (e2 == 0) = false := by simp [h2]
      have h2c : (e2 != 0) = true := by simp [h2]
      have HE : Hid (chS a b = S ∧ chE a b = 0) := Lib.hid ⟨by rw [HPK3.out.1]; unfold pick2; rw [if_neg (by decide), if_neg (fun h => h2 h.1)], by rw [HPK3.out.2]; simp⟩
      clear h2
      go_wp2_with fail
      generalize hV : World.setCell _ _ _ = V
      obtain ⟨t1, t2⟩ := put4V XR.out hV
      have q := row_cells t2
      have HF := Lib.hid ((Only.of_below (S := []) B4.out).then_ t1 (fun z hz => .inr (by rw [List.mem_singleton.1 hz]; exact Nat.le_refl _))).below
      clear hV t1 t2 fr r0 r1 r2 r3 s0 s1 s2 s3 t0 t1' t2' t3
      simp [bodyPost, results, Tryd.results18, go_sem, q]
      exact ⟨by rw [HE.out.1, HE.out.2]; rfl, HF.out⟩
  · have h1b : (e1 == 0) = false := by simp [h1]
    have h1c : (e1 != 0) = true := by simp [h1]
    by_cases h2 : e2 = 0
    · subst h2
      have HE : Hid (chS a b = T ∧ chE a b = 0) := Lib.hid ⟨by rw [HPK3.out.1]; unfold pick2; rw [if_pos h1, if_neg (by decide)], by rw [HPK3.out.2]; simp⟩
      clear h1
      go_wp2_with fail
      generalize hV : World.setCell _ _ _ = V
      obtain ⟨t1, t2⟩ := put4V XR.out hV
      have q := row_cells t2
      have HF := Lib.hid ((Only.of_below (S := []) B4.out).then_ t1 (fun z hz => .inr (by rw [List.mem_singleton.1 hz]; exact Nat.le_refl _))).below
      clear hV t1 t2 fr r0 r1 r2 r3 s0 s1 s2 s3 t0 t1' t2' t3
      simp [bodyPost, results, Tryd.results18, go_sem, q]
      exact ⟨by rw [HE.out.1, HE.out.2]; rfl, HF.out⟩
    · have h2b : (e2 == 0) = false := by simp [h2]
      have h2c : (e2 != 0) = true := by simp [h2]
      have HE : Hid (chS a b = Sup.zero ∧ chE a b = 140) := Lib.hid ⟨by rw [HPK3.out.1]; unfold pick2; rw [if_pos h1, if_pos h2], by rw [HPK3.out.2]; rw [if_pos ⟨h1, h2⟩]⟩
      clear h1 h2
      go_wp2_with fail
      generalize hV : World.setCell _ _ _ = V
      obtain ⟨t1, t2⟩ := put4V XR.out hV
      have q := row_cells t2
      have HF := Lib.hid ((Only.of_below (S := []) B4.out).then_ t1 (fun z hz => .inr (by rw [List.mem_singleton.1 hz]; exact Nat.le_refl _))).below
      clear hV t1 t2 fr r0 r1 r2 r3 s0 s1 s2 s3 t0 t1' t2' t3
      simp [bodyPost, results, Tryd.results18, go_sem, q]
      exact ⟨by rw [HE.out.1, HE.out.2]; rfl, HF.out⟩
end Go.Proofs.YtonjapphhbhcpaaDoor
