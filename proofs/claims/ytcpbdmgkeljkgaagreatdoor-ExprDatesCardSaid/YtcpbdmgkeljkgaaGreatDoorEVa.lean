/- A field of the document. No statement is proved here. -/
import Derived.Test.YtcpbdmgkeljkgaaGreatDoorECh
import Derived.Deep.RegionLaw
namespace Go.Proofs.YtcpbdmgkeljkgaaGreatDoor
open Go.RowKit
set_option maxRecDepth 100000

/-- A document of one number. -/
def oneDoc (g : Nat) (c : Nat) (p : ByteArray) (m : Int) : T := .mk 5 0 ⟨#[]⟩ none 0 [] (some ⟨g, 0, none⟩) c [(p, intT m)]
/-- The field of that document. -/
def FieldIn (w : World) (g : Nat) (p : ByteArray) (m : Int) : Prop :=
  w.cell? ⟨g, 0, none⟩ = some (.string p) ∧ w.cell? ⟨g, 1, none⟩ = some (.int .i64 3) ∧ w.cell? ⟨g, 2, none⟩ = some (.int .i64 m) ∧ w.cell? ⟨g, 3, none⟩ = some (.string ⟨#[]⟩) ∧ w.cell? ⟨g, 4, none⟩ = some (.slice none 0 0) ∧ w.cell? ⟨g, 5, none⟩ = some (.slice none 0 0)
theorem FieldIn.then_ {w w' : World} {g : Nat} {p : ByteArray} {m : Int} (h : FieldIn w g p m) (hb : Below w.heap.size w w') : FieldIn w' g p m := by
  obtain ⟨h0, h1, h2, h3, h4, h5⟩ := h
  have k := fun o v (h : w.cell? ⟨g, o, none⟩ = some v) => (hb.cell (World.block_lt_of_cell? w _ h)).trans h
  exact ⟨k _ _ h0, k _ _ h1, k _ _ h2, k _ _ h3, k _ _ h4, k _ _ h5⟩
theorem FieldIn.of_doc {w : World} {g c : Nat} {p : ByteArray} {m : Int} (h : (oneDoc g c p m).In w) : FieldIn w g p m := by
  have k : ∀ (o : Nat) (v : Value), (fcells (p, intT m))[o]? = some v → w.cell? ⟨g, o, none⟩ = some v := fun o v hv => by
    have := h (at_ (some ⟨g, 0, none⟩) (0 * 6 + o), v) (by
      unfold oneDoc
      simp only [T.places, List.mem_append]
      refine .inr ((T.mem_placesD _ _ _ _).2 ⟨0, _, rfl, .inl (mem_laid.2 ⟨o, v, hv, ?_⟩)⟩)
      simp)
    simpa [at_] using this
  exact ⟨k 0 _ rfl, k 1 _ rfl, k 2 _ rfl, k 3 _ rfl, k 4 _ rfl, k 5 _ rfl⟩
theorem pick1_any (p : ByteArray) (m : Int) (gs gp : Nat) (c : Nat) (w : World) (hs : w.cell? ⟨gs, 0, none⟩ = some (.slice (some ⟨gp, 0, none⟩) 1 c)) (hp : w.cell? ⟨gp, 0, none⟩ = some (.string p)) :
    Calls Tryz.prog 261 #[.agg #[.string p, .int .i64 3, .int .i64 m, .string ⟨#[]⟩, .slice none 0 0, .slice none 0 0], .pointer (some ⟨gs, 0, none⟩)] w fun e w' => e = .returned (.bool true) ∧ Below w.heap.size w w' := by
  have hlt := World.block_lt_of_cell? w _ hs
  have hlt2 := World.block_lt_of_cell? w _ hp
  go_enter Tryz.func261, Tryz.ntmps261
  go_wp2_with fail
  go_region
  go_wp2_with fail
  go_ret
  exact ⟨by simp, (below1 _ _).drew⟩
theorem index1_any (p : ByteArray) (m : Int) (gd dc gs gp : Nat) (c : Nat) (w : World) (hd : FieldIn w gd p m) (hs : w.cell? ⟨gs, 0, none⟩ = some (.slice (some ⟨gp, 0, none⟩) 1 c)) (hp : w.cell? ⟨gp, 0, none⟩ = some (.string p)) :
    Calls Tryz.prog 172 #[.slice (some ⟨gd, 0, none⟩) 1 dc, .func (.func 261) #[] #[.pointer (some ⟨gs, 0, none⟩)]] w fun e w' => e = .returned (.int .i64 0) ∧ Below w.heap.size w w' := by
  have hlt := World.block_lt_of_cell? w _ hs
  have hlt2 := World.block_lt_of_cell? w _ hp
  obtain ⟨d0, d1, d2, d3, d4, d5⟩ := hd
  have HP := Lib.hid (fun w hs hp => pick1_any p m gs gp c w hs hp)
  have HS := Lib.hid (And.intro hs hp)
  clear hs hp
  go_enter Tryz.func172, Tryz.ntmps172
  go_wp2_with fail
  go_loopw [5, 8] (fun _ i wr => i = .int .i64 0 ∧ wr = w) (fun _ i _ => 1 - (intOf i).toNat)
  case atStart => exact ⟨rfl, rfl⟩
  case round =>
    obtain ⟨rfl, rfl⟩ := hrel
    go_wp2_with fail
    refine (HP.out _ HS.out.1 HS.out.2).mono ?_
    rintro e w1 ⟨rfl, b1⟩
    go_wp2_with fail
    go_ret
    exact ⟨rfl, b1⟩
theorem pick_put {w1 V : World} {A : Nat} {x0 x1 x2 x3 x4 y v : Value} {m : Int} (X0 : w1.heap[A]? = some (.cells #[x0, x1, x2, x3, x4] 28 (0, 0))) (X1 : w1.heap[A + 1]? = some (.cells #[y] 50 (0, 0)))
    (hV : ((((((w1.setCell ⟨A, 0, none⟩ (.int .i64 3)).setCell ⟨A, 1, none⟩ (.int .i64 m)).setCell ⟨A, 2, none⟩ (.string ⟨#[]⟩)).setCell ⟨A, 3, none⟩ (.slice none 0 0)).setCell ⟨A, 4, none⟩ (.slice none 0 0)).setCell ⟨A + 1, 0, none⟩ v) = V) :
    Only [A, A + 1] w1 V ∧ V.heap[A]? = some (box 3 m) ∧ V.heap[A + 1]? = some (.cells #[v] 50 (0, 0)) := by
  generalize hU : ((((w1.setCell ⟨A, 0, none⟩ (.int .i64 3)).setCell ⟨A, 1, none⟩ (.int .i64 m)).setCell ⟨A, 2, none⟩ (.string ⟨#[]⟩)).setCell ⟨A, 3, none⟩ (.slice none 0 0)).setCell ⟨A, 4, none⟩ (.slice none 0 0) = U at hV
  obtain ⟨t1, t2⟩ := put5V X0 hU
  subst hV
  refine ⟨(t1.mono (by simp)).setCell (.inl (by simp)) _, ?_, ?_⟩
  · rw [Below.heap_setCell _ _ _ _ (by simp)]
    exact t2
  · have h1 := (t1.block (A + 1) (lt_of_block X1) (by simp)).trans X1
    have := heap_setCell_same _ _ 0 _ _ v h1
    simpa using this
set_option maxHeartbeats 4000000 in
theorem epick_any (p : ByteArray) (m : Int) (gd dc gp : Nat) (c : Nat) (hc : 1 ≤ c ∧ c ≤ 9223372036854775807) (w : World) (hd : FieldIn w gd p m) (hp : w.cell? ⟨gp, 0, none⟩ = some (.string p)) :
    Calls Tryz.prog 260 #[(oneDoc gd dc p m).arg, .slice (some ⟨gp, 0, none⟩) 1 c] w fun e w' => e = .returned (intT m).arg ∧ Below w.heap.size w w' := by
  show Calls _ _ #[.agg #[.int .i64 5, .int .i64 0, .string ⟨#[]⟩, .slice none 0 0, .slice (some ⟨gd, 0, none⟩) 1 dc], .slice (some ⟨gp, 0, none⟩) 1 c] _ _
  have hlt2 := World.block_lt_of_cell? w _ hp
  have hltd := World.block_lt_of_cell? w _ hd.1
  have HI := Lib.hid (fun w gs hd hs hp => index1_any p m gd dc gs gp c w hd hs hp)
  have HM := Lib.hid (show (3 : Int) ≠ 5 by decide)
  obtain ⟨U, hU⟩ : ∃ U, ((w.alloc (.cells #[.int .i64 5, .int .i64 0, .string ⟨#[]⟩, .slice none 0 0, .slice (some ⟨gd, 0, none⟩) 1 dc] 28)).alloc (.cells #[.slice (some ⟨gp, 0, none⟩) 1 c] 50)).alloc (.cells #[.int .i64 0, .int .i64 0, .string ⟨#[]⟩, .slice none 0 0, .slice none 0 0] 28) = U := ⟨_, rfl⟩
  have bU : Below w.heap.size w U := by rw [← hU]; exact below3 _ _ _ _
  have r0 : U.heap[w.heap.size]? = some (.cells #[.int .i64 5, .int .i64 0, .string ⟨#[]⟩, .slice none 0 0, .slice (some ⟨gd, 0, none⟩) 1 dc] 28 (0, 0)) := by rw [← hU]; exact row_then (heap_alloc_new w _) (below2 _ _ _)
  have r1 : U.heap[w.heap.size + 1]? = some (.cells #[.slice (some ⟨gp, 0, none⟩) 1 c] 50 (0, 0)) := by
    rw [← hU]
    have h1 := row_then (heap_alloc_new (w.alloc (.cells #[.int .i64 5, .int .i64 0, .string ⟨#[]⟩, .slice none 0 0, .slice (some ⟨gd, 0, none⟩) 1 dc] 28)) (.cells #[.slice (some ⟨gp, 0, none⟩) 1 c] 50)) (below1 _ (.cells #[.int .i64 0, .int .i64 0, .string ⟨#[]⟩, .slice none 0 0, .slice none 0 0] 28))
    rw [World.size_alloc] at h1
    exact h1
  have r2 : U.heap[w.heap.size + 1 + 1]? = some (box 0 0) := by
    rw [← hU]
    have h1 := heap_alloc_new ((w.alloc (.cells #[.int .i64 5, .int .i64 0, .string ⟨#[]⟩, .slice none 0 0, .slice (some ⟨gd, 0, none⟩) 1 dc] 28)).alloc (.cells #[.slice (some ⟨gp, 0, none⟩) 1 c] 50)) (box 0 0)
    rw [World.size_alloc, World.size_alloc] at h1
    exact h1
  have HU := Lib.hid (And.intro hU (And.intro bU (And.intro r0 (And.intro r1 (And.intro r2 (And.intro (hd.then_ bU) ((bU.cell (p := ⟨gp, 0, none⟩) hlt2).trans hp)))))))
  clear hU bU r0 r1 r2 hd hp
  go_enter Tryz.func260, Tryz.ntmps260
  go_wp2_with fail
  rw [HU.out.1]
  go_loopw [5] (fun _ wr => wr = U ∨ (∃ sl c', Only [w.heap.size, w.heap.size + 1] U wr ∧ wr.heap[w.heap.size]? = some (box 3 m) ∧ wr.heap[w.heap.size + 1]? = some (.cells #[.slice sl 0 c'] 50 (0, 0)))) (fun _ W => match W.cell? ⟨w.heap.size, 0, none⟩ with | some (.int _ 5) => 1 | _ => 0)
  case atStart => exact .inl rfl
  case round =>
    rcases hrel with rfl | ⟨sl, c', ho, h0, h1⟩
    · have r0 := HU.out.2.2.1
      have r1 := HU.out.2.2.2.1
      have c0 := row_cells r0
      have f0 := rowf r0
      have c1 := row_cells r1
      have f1 := rowf r1
      have HCI := Lib.hid (HI.out _ (w.heap.size + 1) HU.out.2.2.2.2.2.1 (by simpa using c1 0) HU.out.2.2.2.2.2.2)
      clear r0 r1
      go_wp2_with fail
      refine HCI.out.mono ?_
      rintro e w1 ⟨rfl, b1⟩
      have X0 := row_then HU.out.2.2.1 b1
      have X1 := row_then HU.out.2.2.2.1 b1
      obtain ⟨d0, d1, d2, d3, d4, d5⟩ := HU.out.2.2.2.2.2.1.then_ b1
      have c0 := row_cells X0
      have f0 := rowf X0
      have c1 := row_cells X1
      have f1 := rowf X1
      have HX := Lib.hid (And.intro X0 (And.intro X1 b1))
      clear X0 X1 b1
      by_cases hc1 : c = 1
      · subst hc1
        go_wp2_with fail
        go_region_law (fail)
        all_goals generalize hV : World.setCell _ _ _ = V'
        all_goals obtain ⟨p1, p2, p3⟩ := pick_put HX.out.1 HX.out.2.1 hV
        all_goals have HV := Lib.hid (And.intro ((Only.of_below HX.out.2.2).trans p1) (And.intro p2 p3))
        all_goals clear hV p1 p2 p3 c0 f0 c1 f1 d0 d1 d2 d3 d4 d5
        all_goals have m0 : V'.drew.cell? ⟨w.heap.size, 0, none⟩ = some (.int .i64 3) := row_cells HV.out.2.1 0
        all_goals go_roundw
        all_goals try (case rel => (repeat apply Exists.intro); exact ⟨.inr ⟨_, _, HV.out.1.drew, HV.out.2.1, HV.out.2.2⟩, rfl⟩)
        all_goals try (case measure => rw [m0, show wr.cell? ⟨w.heap.size, 0, none⟩ = some (.int .i64 5) from row_cells HU.out.2.2.1 0]; decide)
      · have hlc : (1 : Int) ≤ c := by omega
        have hcb : (c == 1) = false := by simpa using hc1
        go_wp2_with fail
        go_region_law (fail)
        all_goals generalize hV : World.setCell _ _ _ = V'
        all_goals obtain ⟨p1, p2, p3⟩ := pick_put HX.out.1 HX.out.2.1 hV
        all_goals have HV := Lib.hid (And.intro ((Only.of_below HX.out.2.2).trans p1) (And.intro p2 p3))
        all_goals clear hV p1 p2 p3 c0 f0 c1 f1 d0 d1 d2 d3 d4 d5
        all_goals have m0 : V'.drew.cell? ⟨w.heap.size, 0, none⟩ = some (.int .i64 3) := row_cells HV.out.2.1 0
        all_goals go_roundw
        all_goals try (case rel => (repeat apply Exists.intro); exact ⟨.inr ⟨_, _, HV.out.1.drew, HV.out.2.1, HV.out.2.2⟩, rfl⟩)
        all_goals try (case measure => rw [m0, show wr.cell? ⟨w.heap.size, 0, none⟩ = some (.int .i64 5) from row_cells HU.out.2.2.1 0]; decide)
    · have c0 := row_cells h0
      have c1 := row_cells h1
      have X2 := keep_row ho HU.out.2.2.2.2.1 (by simp; omega)
      have c2 := row_cells X2
      have f2 := rowf X2
      unfold box at c0 c2
      have HX := Lib.hid (And.intro X2 (below_then HU.out.2.1 (Below.refl _ U)))
      have HO := Lib.hid ho
      clear h0 h1 ho X2
      go_wp2_with fail
      generalize hV : World.setCell _ _ _ = V'
      obtain ⟨t1, t2⟩ := put5V HX.out.1 hV
      have q := row_cells t2
      have HR := Lib.hid (((Only.of_below (S := []) HU.out.2.1).then_ HO.out (fun x hx => .inr (by simp at hx; omega))).then_ t1 (fun x hx => .inr (by simp at hx; omega))).below
      clear hV t1 t2 c0 c1 c2 f2
      simp [bodyPost, results, Tryz.results260, go_sem, q]
      exact ⟨by simp [intT, T.arg, T.cells], HR.out⟩
set_option maxHeartbeats 2000000 in
/-- A field of the document. -/
theorem var_ev {W : World} (gd dc gp c : Nat) (p : ByteArray) (m : Int) (hm : in64 m) (hc : 1 ≤ c ∧ c ≤ 9223372036854775807) (hp : W.cell? ⟨gp, 0, none⟩ = some (.string p)) :
    Ev W (oneDoc gd dc p m) 91 (.agg #[.int .i64 0, .slice (some ⟨gp, 0, none⟩) 1 c]) 0 (fun r => r = intT m) 0 := by
  refine ⟨259, ⟨fun w => by kernel_rfl, fun args w => by kernel_rfl⟩, fun w g gb n hb hg hw hn => ?_⟩
  have hlt := World.block_lt_of_cell? W _ hp
  have hWz := hb.size
  obtain ⟨U, hU⟩ : ∃ U, (w.alloc (.cells #[.int .i64 0, .slice (some ⟨gp, 0, none⟩) 1 c] 91)).alloc (.cells #[.int .i64 0, .int .i64 0, .string ⟨#[]⟩, .slice none 0 0, .slice none 0 0] 28) = U := ⟨_, rfl⟩
  have bU : Below w.heap.size w U := by rw [← hU]; exact below2 _ _ _
  have r0 : U.heap[w.heap.size]? = some (.cells #[.int .i64 0, .slice (some ⟨gp, 0, none⟩) 1 c] 91 (0, 0)) := by rw [← hU]; exact row_then (heap_alloc_new w _) (below1 _ _)
  have r1 : U.heap[w.heap.size + 1]? = some (box 0 0) := by
    rw [← hU]
    have h1 := heap_alloc_new (w.alloc (.cells #[.int .i64 0, .slice (some ⟨gp, 0, none⟩) 1 c] 91)) (box 0 0)
    rw [World.size_alloc] at h1
    exact h1
  have kU : WkAt U g gb (oneDoc gd dc p m) n := hw.then_ (Only.of_below bU) (row_then hw.row bU)
  have hpU : U.cell? ⟨gp, 0, none⟩ = some (.string p) := ((below_onlyG hb (Only.of_below (S := [g]) bU) hg hWz).cell hlt).trans hp
  have cg := row_cells kU.row
  have cb : ∀ o : Nat, U.cell? ⟨gb, o, none⟩ = (#[.int .i64 5, .int .i64 0, .string ⟨#[]⟩, .slice none 0 0, .slice (some ⟨gd, 0, none⟩) 1 dc] : Array Value)[o]? := row_cells kU.bound
  have c0 := row_cells r0
  have h0 := epick_any p m gd dc gp c hc U.drew (FieldIn.of_doc (show (oneDoc gd dc p m).In U.drew from kU.doc)) hpU
  rw [show (oneDoc gd dc p m).arg = .agg #[.int .i64 5, .int .i64 0, .string ⟨#[]⟩, .slice none 0 0, .slice (some ⟨gd, 0, none⟩) 1 dc] from rfl, show (intT m).arg = .agg #[.int .i64 3, .int .i64 m, .string ⟨#[]⟩, .slice none 0 0, .slice none 0 0] from rfl] at h0
  have HP := Lib.hid (h0.mono fun e w' ⟨h1, h2⟩ => (And.intro h1 (below_then (Below.refl _ U).drew h2)))
  clear h0
  have HU := Lib.hid (And.intro hU (And.intro bU (And.intro r1 kU.row)))
  have hgw := lt_of_block hw.row
  unfold wkRow at cg
  clear hU bU r0 r1 kU hpU hp hw hb
  go_enter Tryz.func259, Tryz.ntmps259
  go_wp2_with fail
  rw [HU.out.1]
  go_region_with (go_at_call 260; refine HP.out.mono ?_; rintro e w3 ⟨rfl, hb3⟩; have X3 := row_then HU.out.2.2.1 hb3; have cX := row_cells X3; have fX := rowf X3; have HX := Lib.hid (And.intro X3 hb3); clear X3; unfold box at cX)
  all_goals simp only [List.getElem_toArray, List.getElem_cons_succ, List.getElem_cons_zero, Act.put, List.setIfInBounds_toArray, List.set_cons_succ, List.set_cons_zero]
  all_goals go_wp2_with fail
  all_goals generalize hV : World.setCell _ _ _ = V'
  all_goals obtain ⟨t1, t2⟩ := put5V HX.out.1 hV
  all_goals have q := row_cells t2
  all_goals have hres : EvTo W.heap.size g gb (n + 0) (fun r => r = intT m) 0 w (.returned (.tuple #[T.arg (intT m), .int .i64 0])) V' := ⟨_, rfl, rfl, intT_ok hm, intT_in _ _, (by rw [intT_places]; simp), ((Only.of_below (S := [g]) HU.out.2.1).trans (Only.of_below HX.out.2)).then_ t1 (fun i hi => .inr (by simp at hi; omega)), (by
      have hs := row_then HU.out.2.2.2 HX.out.2
      rw [t1.block g (lt_of_block hs) (by simp; omega)]
      exact hs)⟩
  all_goals have HR := Lib.hid hres
  all_goals clear hV t1 t2 cX fX hres
  all_goals simp [bodyPost, results, Tryz.results259, go_sem, q]
  all_goals exact HR.out
end Go.Proofs.YtcpbdmgkeljkgaaGreatDoor
