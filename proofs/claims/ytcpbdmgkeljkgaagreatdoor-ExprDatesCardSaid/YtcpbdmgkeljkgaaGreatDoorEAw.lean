/- The small case of layer 5. No statement is proved here. -/
import Derived.Test.YtcpbdmgkeljkgaaGreatDoorJ4
import Derived.Test.YtcpbdmgkeljkgaaGreatDoorEWn
namespace Go.Proofs.YtcpbdmgkeljkgaaGreatDoor
open Go.RowKit
set_option maxRecDepth 100000

/-- What one more call of the small case keeps. -/
structure Kp (W w : World) (gd : Nat) : Prop where
  bel : Below W.heap.size W w
  env : EnvR w
  doc : (oneDoc gd 1 ⟨#[97]⟩ 5).In w
theorem Kp.then_ {W w w' : World} {gd : Nat} (h : Kp W w gd) (hb : Below w.heap.size w w') : Kp W w' gd := ⟨below_then h.bel hb, h.env.then_ hb, h.doc.then_ hb⟩
theorem Kp.drew {W w : World} {gd : Nat} (h : Kp W w gd) : Kp W w.drew gd := ⟨h.bel.drew, h.env, h.doc⟩
theorem oneDoc_in {w : World} {g c : Nat} {p : ByteArray} {m : Int} (h : w.heap[g]? = some (.cells #[.string p, .int .i64 3, .int .i64 m, .string ⟨#[]⟩, .slice none 0 0, .slice none 0 0] 44 (0, 0))) : (oneDoc g c p m).In w := by
  intro q hq
  simp only [oneDoc, T.places, T.placesL, List.nil_append] at hq
  obtain ⟨i, x, hx, hq⟩ := (T.mem_placesD _ _ _ _).1 hq
  have hi : i = 0 := by have := lt_of_get hx; simp at this; exact this
  subst hi
  simp at hx
  subst hx
  rcases hq with hq | hq
  · obtain ⟨j, v, hv, rfl⟩ := mem_laid.1 hq
    have := cell_of_row w g (0 * 6 + j) _ _ _ h
    simp only [at_, Nat.zero_add, Nat.zero_mul] at this ⊢
    rw [this, ← hv]
    simp [fcells, intT, T.cells]
  · rw [intT_places] at hq; simp at hq
/-- Values one behind another in a row. -/
theorem vals_in {w : World} {g : Nat} {l : List T} {cur : Array Value} (h : w.heap[g]? = some (.cells cur 28 (0, 0))) (hc : cur = (l.flatMap T.cells).toArray) (hl : ∀ x ∈ l, x.In w) : InL w (some ⟨g, 0, none⟩) l := by
  subst hc
  intro p hp
  obtain ⟨i, x, hx, hp⟩ := (T.mem_placesL _ _ _ _).1 hp
  rcases hp with hp | hp
  · obtain ⟨j, c, hc, rfl⟩ := mem_laid.1 hp
    have hj := lt_of_get hc
    rw [cells_len] at hj
    have hg := (flatMap_get T.cells 5 cells_len l i x hx j hj).trans hc
    have := row_cells h (i * 5 + j)
    simp only [at_, Nat.zero_add]
    rw [this, ← hg, List.getElem?_toArray]
  · exact hl x (List.mem_of_getElem? hx) p hp
theorem put5c {w : World} {b D o : Nat} (h : D ≠ b) (v0 v1 v2 v3 v4 : Value) : (((((w.setCell ⟨b, 0, none⟩ v0).setCell ⟨b, 1, none⟩ v1).setCell ⟨b, 2, none⟩ v2).setCell ⟨b, 3, none⟩ v3).setCell ⟨b, 4, none⟩ v4).cell? ⟨D, o, none⟩ = w.cell? ⟨D, o, none⟩ := by
  rw [World.cell?_setCell_other _ _ _ _ (by simp [h]), World.cell?_setCell_other _ _ _ _ (by simp [h]), World.cell?_setCell_other _ _ _ _ (by simp [h]), World.cell?_setCell_other _ _ _ _ (by simp [h]), World.cell?_setCell_other _ _ _ _ (by simp [h])]
theorem size_al (w : World) (o : Obj) : w.heap.size + 1 = (w.alloc o).heap.size := by simp
/-- Ways through a code that part and meet again: what they have in common. -/
theorem cut_code {P : Program} {c : Code} {K : Act → World → Prop} {Q : Exit → Act → World → Prop} {act : Act} {U : World} (R : Act → Act → World → Prop) (h1 : c.wp P (Exit.then (R act) Q) act U) (h2 : ∀ a w, R act a w → K a w) : c.wp P (Exit.then K Q) act U :=
  Code.wp_mono (fun e a w h => by cases e <;> first | exact h2 _ _ h | exact h) h1
theorem acall {name : ByteArray} (l : List T) (n : Nat) (hn : l.length = n) (ga lc : Nat) (w : World) (hin : InL w (some ⟨ga, 0, none⟩) l) : Calls Tryz.prog 8 #[.string name, .slice (some ⟨ga, 0, none⟩) n lc] w fun e w' =>
    ∃ g gx, e = .returned (.agg #[.int .i64 5, .int .i64 0, .string ⟨#[]⟩, .slice none 0 0, .slice (some ⟨g, 0, none⟩) 1 1]) ∧ Below w.heap.size w w' ∧ (callT name (some ⟨g, 0, none⟩) 1 (some ⟨gx, 0, none⟩) lc l).In w' := by
  subst hn
  refine (lcall_any name _ lc l w hin).mono ?_
  rintro e w' ⟨hb, g, -, rfl, hi⟩
  exact ⟨g, ga, rfl, hb, hi⟩
theorem vin3 {W : World} {a b c : T} (ha : a.In W) (hb : b.In W) (hc : c.In W) : ∀ x ∈ [a, b, c], x.In W := by
  intro x hx
  simp only [List.mem_cons, List.not_mem_nil, or_false] at hx
  rcases hx with rfl | rfl | rfl <;> assumption
theorem atext (s : ByteArray) (w : World) : Calls Tryz.prog 12 #[.string s] w fun e w' => e = .returned (.agg #[.int .i64 4, .int .i64 0, .string s, .slice none 0 0, .slice none 0 0]) ∧ Below w.heap.size w w' := ltext_any s w
theorem aint (n : Int) (w : World) : Calls Tryz.prog 9 #[.int .i64 n] w fun e w' => e = .returned (.agg #[.int .i64 3, .int .i64 n, .string ⟨#[]⟩, .slice none 0 0, .slice none 0 0]) ∧ Below w.heap.size w w' := lint_any n w
/-- A box that came in a region, or was there ahead of its last call. -/
theorem bx_new {U w6 : World} (h6 : Below U.heap.size U w6) (v0 v1 v2 v3 v4 : Value) :
    Below U.heap.size U (w6.alloc (.cells #[v0, v1, v2, v3, v4] 28)) ∧ (w6.alloc (.cells #[v0, v1, v2, v3, v4] 28)).heap[w6.heap.size]? = some (.cells #[v0, v1, v2, v3, v4] 28 (0, 0)) :=
  ⟨below_then h6 (below1 _ _), heap_alloc_new _ _⟩
theorem bx_put {U w6 : World} {b : Nat} (h6 : Below U.heap.size U w6) (RB : w6.heap[b]? = some (box 0 0)) (hb : U.heap.size ≤ b) (v0 v1 v2 v3 v4 : Value) :
    Below U.heap.size U (((((w6.setCell ⟨b, 0, none⟩ v0).setCell ⟨b, 1, none⟩ v1).setCell ⟨b, 2, none⟩ v2).setCell ⟨b, 3, none⟩ v3).setCell ⟨b, 4, none⟩ v4) ∧
      (((((w6.setCell ⟨b, 0, none⟩ v0).setCell ⟨b, 1, none⟩ v1).setCell ⟨b, 2, none⟩ v2).setCell ⟨b, 3, none⟩ v3).setCell ⟨b, 4, none⟩ v4).heap[b]? = some (.cells #[v0, v1, v2, v3, v4] 28 (0, 0)) := by
  generalize hV : ((((w6.setCell ⟨b, 0, none⟩ v0).setCell ⟨b, 1, none⟩ v1).setCell ⟨b, 2, none⟩ v2).setCell ⟨b, 3, none⟩ v3).setCell ⟨b, 4, none⟩ v4 = V
  obtain ⟨t1, t2⟩ := put5V RB hV
  exact ⟨((Only.of_below (S := []) h6).then_ t1 (fun i hi => .inr (by simp at hi; omega))).below, t2⟩
theorem awork1 (gd g ga : Nat) (w : World) (hin : (callT nAdd (some ⟨g, 0, none⟩) 1 (some ⟨ga, 0, none⟩) 2 [txtT sA, intT 1]).In w) {W : World} (hk : Kp W w gd) :
    Calls Tryz.prog 7 #[.agg #[.int .i64 5, .int .i64 0, .string ⟨#[]⟩, .slice none 0 0, .slice (some ⟨g, 0, none⟩) 1 1], .agg #[.int .i64 5, .int .i64 0, .string ⟨#[]⟩, .slice none 0 0, .slice (some ⟨gd, 0, none⟩) 1 1]] w fun e w' => e = .returned (.tuple #[.agg #[.int .i64 3, .int .i64 6, .string ⟨#[]⟩, .slice none 0 0, .slice none 0 0], .int .i64 0]) ∧ Below w.heap.size w w' := work_add gd g (some ⟨ga, 0, none⟩) 2 (by omega) (by simp) w hin hk.doc hk.env
theorem awork2 (gd g ga : Nat) (w : World) (hin : (callT nDiv (some ⟨g, 0, none⟩) 1 (some ⟨ga, 0, none⟩) 2 [intT (-7), intT 2]).In w) {W : World} (hk : Kp W w gd) :
    Calls Tryz.prog 7 #[.agg #[.int .i64 5, .int .i64 0, .string ⟨#[]⟩, .slice none 0 0, .slice (some ⟨g, 0, none⟩) 1 1], .agg #[.int .i64 5, .int .i64 0, .string ⟨#[]⟩, .slice none 0 0, .slice (some ⟨gd, 0, none⟩) 1 1]] w fun e w' => e = .returned (.tuple #[.agg #[.int .i64 3, .int .i64 (-3), .string ⟨#[]⟩, .slice none 0 0, .slice none 0 0], .int .i64 0]) ∧ Below w.heap.size w w' := work2_any (oneDoc_ok gd (by unfold okLen; decide) six5) (o := .div) rfl (by decide) (by decide) op_div name_div (by decide) g (some ⟨ga, 0, none⟩) 2 (by omega) (by simp) w hin hk.doc hk.env
theorem awork3 (gd : Nat) (w : World) {W : World} (hk : Kp W w gd) :
    Calls Tryz.prog 7 #[.agg #[.int .i64 4, .int .i64 0, .string ⟨#[36]⟩, .slice none 0 0, .slice none 0 0], .agg #[.int .i64 5, .int .i64 0, .string ⟨#[]⟩, .slice none 0 0, .slice (some ⟨gd, 0, none⟩) 1 1]] w fun e w' => e = .returned (.tuple #[.agg #[.int .i64 0, .int .i64 0, .string ⟨#[]⟩, .slice none 0 0, .slice none 0 0], .int .i64 50]) ∧ Below w.heap.size w w' := work_dollar (d := oneDoc gd 1 ⟨#[97]⟩ 5) w hk.env
theorem awork4 (gd g ga g1 g2 a1 a2 : Nat) (w : World) (hin : (callT nCond (some ⟨g, 0, none⟩) 1 (some ⟨ga, 0, none⟩) 3 [callT nGt (some ⟨g1, 0, none⟩) 1 (some ⟨a1, 0, none⟩) 2 [txtT sA, intT 3], txtT sBig, callT nDiv (some ⟨g2, 0, none⟩) 1 (some ⟨a2, 0, none⟩) 2 [intT 1, intT 0]]).In w) {W : World} (hk : Kp W w gd) :
    Calls Tryz.prog 7 #[.agg #[.int .i64 5, .int .i64 0, .string ⟨#[]⟩, .slice none 0 0, .slice (some ⟨g, 0, none⟩) 1 1], .agg #[.int .i64 5, .int .i64 0, .string ⟨#[]⟩, .slice none 0 0, .slice (some ⟨gd, 0, none⟩) 1 1]] w fun e w' => e = .returned (.tuple #[.agg #[.int .i64 4, .int .i64 0, .string ⟨#[98, 105, 103]⟩, .slice none 0 0, .slice none 0 0], .int .i64 0]) ∧ Below w.heap.size w w' := work_cond gd g g1 g2 _ _ _ 3 2 2 (by omega) (by simp) (by omega) (by simp) (by omega) (by simp) w hin hk.doc hk.env
/-- Behind a work. -/
def Awa (U : World) (act a : Act) (F : World) : Prop :=
  ∃ (bx : Nat) (v12 v13 v14 v15 v16 v17 v18 v19 v20 : Value), a = ((((((((((act.put (some 2) (.pointer (some ⟨bx, 0, none⟩))).put (some 3) (.int .i64 0)).put (some 12) v12).put (some 13) v13).put (some 14) v14).put (some 15) v15).put (some 16) v16).put (some 17) v17).put (some 18) v18).put (some 19) v19).put (some 20) v20 ∧ Below U.heap.size U F ∧ F.heap[bx]? = some (.cells #[.int .i64 3, .int .i64 6, .string ⟨#[]⟩, .slice none 0 0, .slice none 0 0] 28 (0, 0))
/-- Behind a work. -/
def Awb (U : World) (act a : Act) (F : World) : Prop :=
  ∃ (bx : Nat) (v21 v22 v23 v24 v25 v26 v27 v28 v29 : Value), a = ((((((((((act.put (some 4) (.pointer (some ⟨bx, 0, none⟩))).put (some 5) (.int .i64 0)).put (some 21) v21).put (some 22) v22).put (some 23) v23).put (some 24) v24).put (some 25) v25).put (some 26) v26).put (some 27) v27).put (some 28) v28).put (some 29) v29 ∧ Below U.heap.size U F ∧ F.heap[bx]? = some (.cells #[.int .i64 3, .int .i64 (-3), .string ⟨#[]⟩, .slice none 0 0, .slice none 0 0] 28 (0, 0))
/-- Behind a work. -/
def Awc (U : World) (act a : Act) (F : World) : Prop :=
  ∃ (bx : Nat) (v30 v31 v32 v33 v34 v35 : Value), a = (((((((act.put (some 6) (.pointer (some ⟨bx, 0, none⟩))).put (some 7) (.int .i64 50)).put (some 30) v30).put (some 31) v31).put (some 32) v32).put (some 33) v33).put (some 34) v34).put (some 35) v35 ∧ Below U.heap.size U F ∧ F.heap[bx]? = some (.cells #[.int .i64 0, .int .i64 0, .string ⟨#[]⟩, .slice none 0 0, .slice none 0 0] 28 (0, 0))
/-- Behind a work. -/
def Awd (U : World) (act a : Act) (F : World) : Prop :=
  ∃ (bx : Nat) (v36 v37 v38 v39 v40 v41 v42 v43 v44 v45 v46 v47 v48 v49 v50 v51 : Value), a = (((((((((((((((((act.put (some 8) (.pointer (some ⟨bx, 0, none⟩))).put (some 9) (.int .i64 0)).put (some 36) v36).put (some 37) v37).put (some 38) v38).put (some 39) v39).put (some 40) v40).put (some 41) v41).put (some 42) v42).put (some 43) v43).put (some 44) v44).put (some 45) v45).put (some 46) v46).put (some 47) v47).put (some 48) v48).put (some 49) v49).put (some 50) v50).put (some 51) v51 ∧ Below U.heap.size U F ∧ F.heap[bx]? = some (.cells #[.int .i64 4, .int .i64 0, .string ⟨#[98, 105, 103]⟩, .slice none 0 0, .slice none 0 0] 28 (0, 0))
set_option maxHeartbeats 16000000 in
theorem awake05_any (w : World) (henv : EnvR w) : Calls Tryz.prog 5 #[] w fun e w' => e = .returned (.bool true) ∧ Below w.heap.size w w' := by
  have HI := Lib.hid (fun n w => aint n w)
  have HT := Lib.hid (fun s w => atext s w)
  have HD := Lib.hid (fun w => ldoc_any ⟨#[97]⟩ 3 5 ⟨#[]⟩ none 0 0 none 0 0 w)
  have HE := Lib.hid henv
  clear henv
  have VI : Hid (∀ W : World, ∀ x ∈ [txtT sA, intT 1], x.In W) := Lib.hid (fun W x hx => by rcases List.mem_cons.1 hx with rfl | hx; exact txtT_in _ _; rw [List.mem_singleton.1 hx]; exact intT_in _ _)
  have VK : Hid (∀ W : World, ∀ x ∈ [txtT sA, intT 3], x.In W) := Lib.hid (fun W x hx => by rcases List.mem_cons.1 hx with rfl | hx; exact txtT_in _ _; rw [List.mem_singleton.1 hx]; exact intT_in _ _)
  have VL : Hid (∀ W : World, ∀ x ∈ [intT 1, intT 0], x.In W) := Lib.hid (fun W x hx => by rcases List.mem_cons.1 hx with rfl | hx; exact intT_in _ _; rw [List.mem_singleton.1 hx]; exact intT_in _ _)
  have VJ : Hid (∀ W : World, ∀ x ∈ [intT (-7), intT 2], x.In W) := Lib.hid (fun W x hx => by rcases List.mem_cons.1 hx with rfl | hx; exact intT_in _ _; rw [List.mem_singleton.1 hx]; exact intT_in _ _)
  go_enter Tryz.func5, Tryz.ntmps5
  go_wp2_with fail
  refine (HI.out 5 _).mono ?_
  rintro e w1 ⟨rfl, b1⟩
  go_wp2_with fail
  refine (HD.out _).mono ?_
  rintro e w2 ⟨gd, rfl, -, hrow, b2⟩
  have HK : Hid (Kp w w2 gd) := Lib.hid ⟨below_then b1 b2, HE.out.then_ (below_then b1 b2), oneDoc_in hrow⟩
  clear b1 b2 hrow HD
  go_wp2_with fail
  obtain ⟨U, hU⟩ : ∃ U, w2.alloc (.cells #[.int .i64 5, .int .i64 0, .string ⟨#[]⟩, .slice none 0 0, .slice (some ⟨gd, 0, none⟩) 1 1] 28) = U := ⟨_, rfl⟩
  have hD := heap_alloc_new w2 (.cells #[.int .i64 5, .int .i64 0, .string ⟨#[]⟩, .slice none 0 0, .slice (some ⟨gd, 0, none⟩) 1 1] 28)
  have hk := HK.out.then_ (below1 w2 (.cells #[.int .i64 5, .int .i64 0, .string ⟨#[]⟩, .slice none 0 0, .slice (some ⟨gd, 0, none⟩) 1 1] 28))
  rw [hU] at hD hk ⊢
  have HUa := Lib.hid (And.intro hk hD)
  clear hU hk HK
  generalize w2.heap.size = D at HUa hD ⊢
  have hlt := lt_of_block hD
  have nU : D ≠ U.heap.size := by omega
  have cD := row_cells hD
  have d0 := cD 0
  have d1 := cD 1
  have d2 := cD 2
  have d3 := cD 3
  have d4 := cD 4
  simp at d0 d1 d2 d3 d4
  clear cD hD
  refine cut_code (Awa U) ?_ ?_
  · go_region_held3 (fun w' => w'.cell? ⟨D, 0, none⟩ = some (.int .i64 5) ∧ w'.cell? ⟨D, 1, none⟩ = some (.int .i64 0) ∧ w'.cell? ⟨D, 2, none⟩ = some (.string ⟨#[]⟩) ∧ w'.cell? ⟨D, 3, none⟩ = some (.slice none 0 0) ∧ w'.cell? ⟨D, 4, none⟩ = some (.slice (some ⟨gd, 0, none⟩) 1 1))
      (first | go_keep | simp [put5c, *])
      (first
        | (go_at_call 12; (fail_if_success have := ha0); refine (HT.out _ _).mono ?_; rintro e wa0 ⟨rfl, ba0⟩; have ha0 : Below U.heap.size U wa0 := (by first | exact below_then (Below.refl _ U).drew ba0 | exact below_then (below1 U _).drew ba0 | exact ba0 | exact below_then (below1 U _) ba0); have lha0 := ha0.size; have nha0 : D ≠ wa0.heap.size := (by omega); have mha0 : D ≠ wa0.heap.size + 1 := (by omega); have kha0 := fun o => ha0.cell (p := ⟨D, o, none⟩) hlt; (try (have RB := row_then (show ((U.alloc (box 0 0)).drew).heap[U.heap.size]? = some (box 0 0) from heap_alloc_new U (box 0 0)) ba0; have cB := row_cells RB; have fB := rowf RB)))
        | (go_at_call 9; (fail_if_success have := ha1); have := ha0; refine (HI.out _ _).mono ?_; rintro e wa1 ⟨rfl, ba1⟩; have ha1 : Below U.heap.size U wa1 := (by first | exact below_then ha0 ba1 | exact below_then (below_then ha0 (below1 _ _)) ba1 | exact below_then (below_then ha0 (below2 _ _ _)) ba1); have lha1 := ha1.size; have nha1 : D ≠ wa1.heap.size := (by omega); have mha1 : D ≠ wa1.heap.size + 1 := (by omega); have kha1 := fun o => ha1.cell (p := ⟨D, o, none⟩) hlt; (first | (have RB := row_then RB ba1; have cB := row_cells RB; have fB := rowf RB) | (have RB := row_then (row_then RB (below1 _ _)) ba1; have cB := row_cells RB; have fB := rowf RB) | (have RB := row_then (heap_alloc_new wa0 (box 0 0)) ba1; have cB := row_cells RB; have fB := rowf RB) | (have RB := row_then (row_then (heap_alloc_new wa0 (box 0 0)) (below1 _ _)) ba1; have cB := row_cells RB; have fB := rowf RB) | (have RB := row_then (heap_alloc_new (wa0.alloc _) (box 0 0)) ba1; rw [World.size_alloc] at RB; have cB := row_cells RB; have fB := rowf RB) | skip))
        | (go_at_call 8; (fail_if_success have := ha2); have := ha1; refine (acall (name := nAdd) [txtT sA, intT 1] 2 rfl _ 2 _ ?_).mono ?_; (first | exact vals_in (heap_alloc_at _ _ _ rfl) rfl (VI.out _) | exact vals_in (heap_alloc_at _ _ _ (size_al _ _)) rfl (VI.out _) | exact vals_in (row_then (heap_alloc_at _ _ _ rfl) (below1 _ _)) rfl (VI.out _)); rintro e wa2 ⟨ga, gax, rfl, ba2, ia⟩; have ha2 : Below U.heap.size U wa2 := (by first | exact below_then ha1 ba2 | exact below_then (below_then ha1 (below1 _ _)) ba2 | exact below_then (below_then ha1 (below2 _ _ _)) ba2); have lha2 := ha2.size; have nha2 : D ≠ wa2.heap.size := (by omega); have mha2 : D ≠ wa2.heap.size + 1 := (by omega); have kha2 := fun o => ha2.cell (p := ⟨D, o, none⟩) hlt; (first | (have RB := row_then RB ba2; have cB := row_cells RB; have fB := rowf RB) | (have RB := row_then (row_then RB (below1 _ _)) ba2; have cB := row_cells RB; have fB := rowf RB) | (have RB := row_then (heap_alloc_new wa1 (box 0 0)) ba2; have cB := row_cells RB; have fB := rowf RB) | (have RB := row_then (row_then (heap_alloc_new wa1 (box 0 0)) (below1 _ _)) ba2; have cB := row_cells RB; have fB := rowf RB) | (have RB := row_then (heap_alloc_new (wa1.alloc _) (box 0 0)) ba2; rw [World.size_alloc] at RB; have cB := row_cells RB; have fB := rowf RB) | skip))
        | (go_at_call 7; (fail_if_success have := ha3); have := ha2; refine (awork1 gd ga _ _ (by first | exact ia | exact ia.then_ (below1 _ _)) (by first | exact HUa.out.1.then_ ha2 | exact HUa.out.1.then_ (below_then ha2 (below1 _ _)))).mono ?_; rintro e wa3 ⟨rfl, ba3⟩; have ha3 : Below U.heap.size U wa3 := (by first | exact below_then ha2 ba3 | exact below_then (below_then ha2 (below1 _ _)) ba3 | exact below_then (below_then ha2 (below2 _ _ _)) ba3); have lha3 := ha3.size; have nha3 : D ≠ wa3.heap.size := (by omega); have mha3 : D ≠ wa3.heap.size + 1 := (by omega); have kha3 := fun o => ha3.cell (p := ⟨D, o, none⟩) hlt; have ia := ia.then_ (by first | exact ba3 | exact below_then (below1 _ _) ba3 | exact below_then (below2 _ _ _) ba3); (first | (have RB := row_then RB ba3; have cB := row_cells RB; have fB := rowf RB) | (have RB := row_then (row_then RB (below1 _ _)) ba3; have cB := row_cells RB; have fB := rowf RB) | (have RB := row_then (heap_alloc_new wa2 (box 0 0)) ba3; have cB := row_cells RB; have fB := rowf RB) | (have RB := row_then (row_then (heap_alloc_new wa2 (box 0 0)) (below1 _ _)) ba3; have cB := row_cells RB; have fB := rowf RB) | (have RB := row_then (heap_alloc_new (wa2.alloc _) (box 0 0)) ba3; rw [World.size_alloc] at RB; have cB := row_cells RB; have fB := rowf RB) | skip)))
    all_goals
      change Awa _ _ _ _
      unfold Awa
      simp only [List.getElem_toArray, List.getElem_cons_succ, List.getElem_cons_zero, Act.put, List.setIfInBounds_toArray, List.set_cons_succ, List.set_cons_zero]
      refine ⟨_, _, _, _, _, _, _, _, _, _, rfl, ?_⟩
      first | (have h := bx_put ha3 RB (by omega) (.int .i64 3) (.int .i64 6) (.string ⟨#[]⟩) (.slice none 0 0) (.slice none 0 0); exact h) | (have h := bx_new ha3 (.int .i64 3) (.int .i64 6) (.string ⟨#[]⟩) (.slice none 0 0) (.slice none 0 0); exact h)
  · rintro aa Fa ⟨bxa, va12, va13, va14, va15, va16, va17, va18, va19, va20, rfl, hba, hxa⟩
    refine ‹∀ (a : Act) (w : World), _ → _› _ _ ?_
    simp only [List.getElem_toArray, List.getElem_cons_succ, List.getElem_cons_zero, Act.put, List.setIfInBounds_toArray, List.set_cons_succ, List.set_cons_zero]
    have HUb := Lib.hid (And.intro (HUa.out.1.then_ hba) (row_then HUa.out.2 hba))
    have HXa := Lib.hid hxa
    have hD := HUb.out.2
    clear hba hxa hlt nU d0 d1 d2 d3 d4
    go_wp2_with fail
    have hlt := lt_of_block hD
    have nU : D ≠ Fa.heap.size := by omega
    have cD := row_cells hD
    have d0 := cD 0
    have d1 := cD 1
    have d2 := cD 2
    have d3 := cD 3
    have d4 := cD 4
    simp at d0 d1 d2 d3 d4
    clear cD hD
    refine cut_code (Awb Fa) ?_ ?_
    · go_region_held3 (fun w' => w'.cell? ⟨D, 0, none⟩ = some (.int .i64 5) ∧ w'.cell? ⟨D, 1, none⟩ = some (.int .i64 0) ∧ w'.cell? ⟨D, 2, none⟩ = some (.string ⟨#[]⟩) ∧ w'.cell? ⟨D, 3, none⟩ = some (.slice none 0 0) ∧ w'.cell? ⟨D, 4, none⟩ = some (.slice (some ⟨gd, 0, none⟩) 1 1))
        (first | go_keep | simp [put5c, *])
        (first
          | (go_at_call 9; (fail_if_success have := hb0); refine (HI.out _ _).mono ?_; rintro e wb0 ⟨rfl, bb0⟩; have hb0 : Below Fa.heap.size Fa wb0 := (by first | exact below_then (Below.refl _ Fa).drew bb0 | exact below_then (below1 Fa _).drew bb0 | exact bb0 | exact below_then (below1 Fa _) bb0); have lhb0 := hb0.size; have nhb0 : D ≠ wb0.heap.size := (by omega); have mhb0 : D ≠ wb0.heap.size + 1 := (by omega); have khb0 := fun o => hb0.cell (p := ⟨D, o, none⟩) hlt; (try (have RB := row_then (show ((Fa.alloc (box 0 0)).drew).heap[Fa.heap.size]? = some (box 0 0) from heap_alloc_new Fa (box 0 0)) bb0; have cB := row_cells RB; have fB := rowf RB)))
          | (go_at_call 9; (fail_if_success have := hb1); have := hb0; refine (HI.out _ _).mono ?_; rintro e wb1 ⟨rfl, bb1⟩; have hb1 : Below Fa.heap.size Fa wb1 := (by first | exact below_then hb0 bb1 | exact below_then (below_then hb0 (below1 _ _)) bb1 | exact below_then (below_then hb0 (below2 _ _ _)) bb1); have lhb1 := hb1.size; have nhb1 : D ≠ wb1.heap.size := (by omega); have mhb1 : D ≠ wb1.heap.size + 1 := (by omega); have khb1 := fun o => hb1.cell (p := ⟨D, o, none⟩) hlt; (first | (have RB := row_then RB bb1; have cB := row_cells RB; have fB := rowf RB) | (have RB := row_then (row_then RB (below1 _ _)) bb1; have cB := row_cells RB; have fB := rowf RB) | (have RB := row_then (heap_alloc_new wb0 (box 0 0)) bb1; have cB := row_cells RB; have fB := rowf RB) | (have RB := row_then (row_then (heap_alloc_new wb0 (box 0 0)) (below1 _ _)) bb1; have cB := row_cells RB; have fB := rowf RB) | (have RB := row_then (heap_alloc_new (wb0.alloc _) (box 0 0)) bb1; rw [World.size_alloc] at RB; have cB := row_cells RB; have fB := rowf RB) | skip))
          | (go_at_call 8; (fail_if_success have := hb2); have := hb1; refine (acall (name := nDiv) [intT (-7), intT 2] 2 rfl _ 2 _ ?_).mono ?_; (first | exact vals_in (heap_alloc_at _ _ _ rfl) rfl (VJ.out _) | exact vals_in (heap_alloc_at _ _ _ (size_al _ _)) rfl (VJ.out _) | exact vals_in (row_then (heap_alloc_at _ _ _ rfl) (below1 _ _)) rfl (VJ.out _)); rintro e wb2 ⟨gb, gbx, rfl, bb2, ib⟩; have hb2 : Below Fa.heap.size Fa wb2 := (by first | exact below_then hb1 bb2 | exact below_then (below_then hb1 (below1 _ _)) bb2 | exact below_then (below_then hb1 (below2 _ _ _)) bb2); have lhb2 := hb2.size; have nhb2 : D ≠ wb2.heap.size := (by omega); have mhb2 : D ≠ wb2.heap.size + 1 := (by omega); have khb2 := fun o => hb2.cell (p := ⟨D, o, none⟩) hlt; (first | (have RB := row_then RB bb2; have cB := row_cells RB; have fB := rowf RB) | (have RB := row_then (row_then RB (below1 _ _)) bb2; have cB := row_cells RB; have fB := rowf RB) | (have RB := row_then (heap_alloc_new wb1 (box 0 0)) bb2; have cB := row_cells RB; have fB := rowf RB) | (have RB := row_then (row_then (heap_alloc_new wb1 (box 0 0)) (below1 _ _)) bb2; have cB := row_cells RB; have fB := rowf RB) | (have RB := row_then (heap_alloc_new (wb1.alloc _) (box 0 0)) bb2; rw [World.size_alloc] at RB; have cB := row_cells RB; have fB := rowf RB) | skip))
          | (go_at_call 7; (fail_if_success have := hb3); have := hb2; refine (awork2 gd gb _ _ (by first | exact ib | exact ib.then_ (below1 _ _)) (by first | exact HUb.out.1.then_ hb2 | exact HUb.out.1.then_ (below_then hb2 (below1 _ _)))).mono ?_; rintro e wb3 ⟨rfl, bb3⟩; have hb3 : Below Fa.heap.size Fa wb3 := (by first | exact below_then hb2 bb3 | exact below_then (below_then hb2 (below1 _ _)) bb3 | exact below_then (below_then hb2 (below2 _ _ _)) bb3); have lhb3 := hb3.size; have nhb3 : D ≠ wb3.heap.size := (by omega); have mhb3 : D ≠ wb3.heap.size + 1 := (by omega); have khb3 := fun o => hb3.cell (p := ⟨D, o, none⟩) hlt; have ib := ib.then_ (by first | exact bb3 | exact below_then (below1 _ _) bb3 | exact below_then (below2 _ _ _) bb3); (first | (have RB := row_then RB bb3; have cB := row_cells RB; have fB := rowf RB) | (have RB := row_then (row_then RB (below1 _ _)) bb3; have cB := row_cells RB; have fB := rowf RB) | (have RB := row_then (heap_alloc_new wb2 (box 0 0)) bb3; have cB := row_cells RB; have fB := rowf RB) | (have RB := row_then (row_then (heap_alloc_new wb2 (box 0 0)) (below1 _ _)) bb3; have cB := row_cells RB; have fB := rowf RB) | (have RB := row_then (heap_alloc_new (wb2.alloc _) (box 0 0)) bb3; rw [World.size_alloc] at RB; have cB := row_cells RB; have fB := rowf RB) | skip)))
      all_goals
        change Awb _ _ _ _
        unfold Awb
        simp only [List.getElem_toArray, List.getElem_cons_succ, List.getElem_cons_zero, Act.put, List.setIfInBounds_toArray, List.set_cons_succ, List.set_cons_zero]
        refine ⟨_, _, _, _, _, _, _, _, _, _, rfl, ?_⟩
        first | (have h := bx_put hb3 RB (by omega) (.int .i64 3) (.int .i64 (-3)) (.string ⟨#[]⟩) (.slice none 0 0) (.slice none 0 0); exact h) | (have h := bx_new hb3 (.int .i64 3) (.int .i64 (-3)) (.string ⟨#[]⟩) (.slice none 0 0) (.slice none 0 0); exact h)
    · rintro ab Fb ⟨bxb, vb21, vb22, vb23, vb24, vb25, vb26, vb27, vb28, vb29, rfl, hbb, hxb⟩
      refine ‹∀ (a : Act) (w : World), _ → _› _ _ ?_
      simp only [List.getElem_toArray, List.getElem_cons_succ, List.getElem_cons_zero, Act.put, List.setIfInBounds_toArray, List.set_cons_succ, List.set_cons_zero]
      have HUc := Lib.hid (And.intro (HUb.out.1.then_ hbb) (row_then HUb.out.2 hbb))
      have HXa := Lib.hid (row_then HXa.out hbb)
      have HXb := Lib.hid hxb
      have hD := HUc.out.2
      clear hbb hxb hlt nU d0 d1 d2 d3 d4
      go_wp2_with fail
      have hlt := lt_of_block hD
      have nU : D ≠ Fb.heap.size := by omega
      have cD := row_cells hD
      have d0 := cD 0
      have d1 := cD 1
      have d2 := cD 2
      have d3 := cD 3
      have d4 := cD 4
      simp at d0 d1 d2 d3 d4
      clear cD hD
      refine cut_code (Awc Fb) ?_ ?_
      · go_region_held3 (fun w' => w'.cell? ⟨D, 0, none⟩ = some (.int .i64 5) ∧ w'.cell? ⟨D, 1, none⟩ = some (.int .i64 0) ∧ w'.cell? ⟨D, 2, none⟩ = some (.string ⟨#[]⟩) ∧ w'.cell? ⟨D, 3, none⟩ = some (.slice none 0 0) ∧ w'.cell? ⟨D, 4, none⟩ = some (.slice (some ⟨gd, 0, none⟩) 1 1))
          (first | go_keep | simp [put5c, *])
          (first
            | (go_at_call 12; (fail_if_success have := hc0); refine (HT.out _ _).mono ?_; rintro e wc0 ⟨rfl, bc0⟩; have hc0 : Below Fb.heap.size Fb wc0 := (by first | exact below_then (Below.refl _ Fb).drew bc0 | exact below_then (below1 Fb _).drew bc0 | exact bc0 | exact below_then (below1 Fb _) bc0); have lhc0 := hc0.size; have nhc0 : D ≠ wc0.heap.size := (by omega); have mhc0 : D ≠ wc0.heap.size + 1 := (by omega); have khc0 := fun o => hc0.cell (p := ⟨D, o, none⟩) hlt; (try (have RB := row_then (show ((Fb.alloc (box 0 0)).drew).heap[Fb.heap.size]? = some (box 0 0) from heap_alloc_new Fb (box 0 0)) bc0; have cB := row_cells RB; have fB := rowf RB)))
            | (go_at_call 7; (fail_if_success have := hc1); have := hc0; refine (awork3 gd _ (by first | exact HUc.out.1.then_ hc0 | exact HUc.out.1.then_ (below_then hc0 (below1 _ _)))).mono ?_; rintro e wc1 ⟨rfl, bc1⟩; have hc1 : Below Fb.heap.size Fb wc1 := (by first | exact below_then hc0 bc1 | exact below_then (below_then hc0 (below1 _ _)) bc1 | exact below_then (below_then hc0 (below2 _ _ _)) bc1); have lhc1 := hc1.size; have nhc1 : D ≠ wc1.heap.size := (by omega); have mhc1 : D ≠ wc1.heap.size + 1 := (by omega); have khc1 := fun o => hc1.cell (p := ⟨D, o, none⟩) hlt; (first | (have RB := row_then RB bc1; have cB := row_cells RB; have fB := rowf RB) | (have RB := row_then (row_then RB (below1 _ _)) bc1; have cB := row_cells RB; have fB := rowf RB) | (have RB := row_then (heap_alloc_new wc0 (box 0 0)) bc1; have cB := row_cells RB; have fB := rowf RB) | (have RB := row_then (row_then (heap_alloc_new wc0 (box 0 0)) (below1 _ _)) bc1; have cB := row_cells RB; have fB := rowf RB) | (have RB := row_then (heap_alloc_new (wc0.alloc _) (box 0 0)) bc1; rw [World.size_alloc] at RB; have cB := row_cells RB; have fB := rowf RB) | skip)))
        all_goals
          change Awc _ _ _ _
          unfold Awc
          simp only [List.getElem_toArray, List.getElem_cons_succ, List.getElem_cons_zero, Act.put, List.setIfInBounds_toArray, List.set_cons_succ, List.set_cons_zero]
          refine ⟨_, _, _, _, _, _, _, rfl, ?_⟩
          first | (have h := bx_put hc1 RB (by omega) (.int .i64 0) (.int .i64 0) (.string ⟨#[]⟩) (.slice none 0 0) (.slice none 0 0); exact h) | (have h := bx_new hc1 (.int .i64 0) (.int .i64 0) (.string ⟨#[]⟩) (.slice none 0 0) (.slice none 0 0); exact h)
      · rintro ac Fc ⟨bxc, vc30, vc31, vc32, vc33, vc34, vc35, rfl, hbc, hxc⟩
        refine ‹∀ (a : Act) (w : World), _ → _› _ _ ?_
        simp only [List.getElem_toArray, List.getElem_cons_succ, List.getElem_cons_zero, Act.put, List.setIfInBounds_toArray, List.set_cons_succ, List.set_cons_zero]
        have HUd := Lib.hid (And.intro (HUc.out.1.then_ hbc) (row_then HUc.out.2 hbc))
        have HXa := Lib.hid (row_then HXa.out hbc)
        have HXb := Lib.hid (row_then HXb.out hbc)
        have hD := HUd.out.2
        clear hbc hxc hlt nU d0 d1 d2 d3 d4
        go_wp2_with fail
        have hlt := lt_of_block hD
        have nU : D ≠ Fc.heap.size := by omega
        have cD := row_cells hD
        have d0 := cD 0
        have d1 := cD 1
        have d2 := cD 2
        have d3 := cD 3
        have d4 := cD 4
        simp at d0 d1 d2 d3 d4
        clear cD hD
        refine cut_code (Awd Fc) ?_ ?_
        · go_region_held3 (fun w' => w'.cell? ⟨D, 0, none⟩ = some (.int .i64 5) ∧ w'.cell? ⟨D, 1, none⟩ = some (.int .i64 0) ∧ w'.cell? ⟨D, 2, none⟩ = some (.string ⟨#[]⟩) ∧ w'.cell? ⟨D, 3, none⟩ = some (.slice none 0 0) ∧ w'.cell? ⟨D, 4, none⟩ = some (.slice (some ⟨gd, 0, none⟩) 1 1))
            (first | go_keep | simp [put5c, *])
            (first
              | (go_at_call 12; (fail_if_success have := hd0); refine (HT.out _ _).mono ?_; rintro e wd0 ⟨rfl, bd0⟩; have hd0 : Below Fc.heap.size Fc wd0 := (by first | exact below_then (Below.refl _ Fc).drew bd0 | exact below_then (below1 Fc _).drew bd0 | exact bd0 | exact below_then (below1 Fc _) bd0); have lhd0 := hd0.size; have nhd0 : D ≠ wd0.heap.size := (by omega); have mhd0 : D ≠ wd0.heap.size + 1 := (by omega); have khd0 := fun o => hd0.cell (p := ⟨D, o, none⟩) hlt; (try (have RB := row_then (show ((Fc.alloc (box 0 0)).drew).heap[Fc.heap.size]? = some (box 0 0) from heap_alloc_new Fc (box 0 0)) bd0; have cB := row_cells RB; have fB := rowf RB)))
              | (go_at_call 9; (fail_if_success have := hd1); have := hd0; refine (HI.out _ _).mono ?_; rintro e wd1 ⟨rfl, bd1⟩; have hd1 : Below Fc.heap.size Fc wd1 := (by first | exact below_then hd0 bd1 | exact below_then (below_then hd0 (below1 _ _)) bd1 | exact below_then (below_then hd0 (below2 _ _ _)) bd1); have lhd1 := hd1.size; have nhd1 : D ≠ wd1.heap.size := (by omega); have mhd1 : D ≠ wd1.heap.size + 1 := (by omega); have khd1 := fun o => hd1.cell (p := ⟨D, o, none⟩) hlt; (first | (have RB := row_then RB bd1; have cB := row_cells RB; have fB := rowf RB) | (have RB := row_then (row_then RB (below1 _ _)) bd1; have cB := row_cells RB; have fB := rowf RB) | (have RB := row_then (heap_alloc_new wd0 (box 0 0)) bd1; have cB := row_cells RB; have fB := rowf RB) | (have RB := row_then (row_then (heap_alloc_new wd0 (box 0 0)) (below1 _ _)) bd1; have cB := row_cells RB; have fB := rowf RB) | (have RB := row_then (heap_alloc_new (wd0.alloc _) (box 0 0)) bd1; rw [World.size_alloc] at RB; have cB := row_cells RB; have fB := rowf RB) | skip))
              | (go_at_call 8; (fail_if_success have := hd2); have := hd1; refine (acall (name := nGt) [txtT sA, intT 3] 2 rfl _ 2 _ ?_).mono ?_; (first | exact vals_in (heap_alloc_at _ _ _ rfl) rfl (VK.out _) | exact vals_in (heap_alloc_at _ _ _ (size_al _ _)) rfl (VK.out _) | exact vals_in (row_then (heap_alloc_at _ _ _ rfl) (below1 _ _)) rfl (VK.out _)); rintro e wd2 ⟨gg, ggx, rfl, bd2, ig⟩; have hd2 : Below Fc.heap.size Fc wd2 := (by first | exact below_then hd1 bd2 | exact below_then (below_then hd1 (below1 _ _)) bd2 | exact below_then (below_then hd1 (below2 _ _ _)) bd2); have lhd2 := hd2.size; have nhd2 : D ≠ wd2.heap.size := (by omega); have mhd2 : D ≠ wd2.heap.size + 1 := (by omega); have khd2 := fun o => hd2.cell (p := ⟨D, o, none⟩) hlt; (first | (have RB := row_then RB bd2; have cB := row_cells RB; have fB := rowf RB) | (have RB := row_then (row_then RB (below1 _ _)) bd2; have cB := row_cells RB; have fB := rowf RB) | (have RB := row_then (heap_alloc_new wd1 (box 0 0)) bd2; have cB := row_cells RB; have fB := rowf RB) | (have RB := row_then (row_then (heap_alloc_new wd1 (box 0 0)) (below1 _ _)) bd2; have cB := row_cells RB; have fB := rowf RB) | (have RB := row_then (heap_alloc_new (wd1.alloc _) (box 0 0)) bd2; rw [World.size_alloc] at RB; have cB := row_cells RB; have fB := rowf RB) | skip))
              | (go_at_call 12; (fail_if_success have := hd3); have := hd2; refine (HT.out _ _).mono ?_; rintro e wd3 ⟨rfl, bd3⟩; have hd3 : Below Fc.heap.size Fc wd3 := (by first | exact below_then hd2 bd3 | exact below_then (below_then hd2 (below1 _ _)) bd3 | exact below_then (below_then hd2 (below2 _ _ _)) bd3); have lhd3 := hd3.size; have nhd3 : D ≠ wd3.heap.size := (by omega); have mhd3 : D ≠ wd3.heap.size + 1 := (by omega); have khd3 := fun o => hd3.cell (p := ⟨D, o, none⟩) hlt; have ig := ig.then_ (by first | exact bd3 | exact below_then (below1 _ _) bd3 | exact below_then (below2 _ _ _) bd3); (first | (have RB := row_then RB bd3; have cB := row_cells RB; have fB := rowf RB) | (have RB := row_then (row_then RB (below1 _ _)) bd3; have cB := row_cells RB; have fB := rowf RB) | (have RB := row_then (heap_alloc_new wd2 (box 0 0)) bd3; have cB := row_cells RB; have fB := rowf RB) | (have RB := row_then (row_then (heap_alloc_new wd2 (box 0 0)) (below1 _ _)) bd3; have cB := row_cells RB; have fB := rowf RB) | (have RB := row_then (heap_alloc_new (wd2.alloc _) (box 0 0)) bd3; rw [World.size_alloc] at RB; have cB := row_cells RB; have fB := rowf RB) | skip))
              | (go_at_call 9; (fail_if_success have := hd4); have := hd3; refine (HI.out _ _).mono ?_; rintro e wd4 ⟨rfl, bd4⟩; have hd4 : Below Fc.heap.size Fc wd4 := (by first | exact below_then hd3 bd4 | exact below_then (below_then hd3 (below1 _ _)) bd4 | exact below_then (below_then hd3 (below2 _ _ _)) bd4); have lhd4 := hd4.size; have nhd4 : D ≠ wd4.heap.size := (by omega); have mhd4 : D ≠ wd4.heap.size + 1 := (by omega); have khd4 := fun o => hd4.cell (p := ⟨D, o, none⟩) hlt; have ig := ig.then_ (by first | exact bd4 | exact below_then (below1 _ _) bd4 | exact below_then (below2 _ _ _) bd4); (first | (have RB := row_then RB bd4; have cB := row_cells RB; have fB := rowf RB) | (have RB := row_then (row_then RB (below1 _ _)) bd4; have cB := row_cells RB; have fB := rowf RB) | (have RB := row_then (heap_alloc_new wd3 (box 0 0)) bd4; have cB := row_cells RB; have fB := rowf RB) | (have RB := row_then (row_then (heap_alloc_new wd3 (box 0 0)) (below1 _ _)) bd4; have cB := row_cells RB; have fB := rowf RB) | (have RB := row_then (heap_alloc_new (wd3.alloc _) (box 0 0)) bd4; rw [World.size_alloc] at RB; have cB := row_cells RB; have fB := rowf RB) | skip))
              | (go_at_call 9; (fail_if_success have := hd5); have := hd4; refine (HI.out _ _).mono ?_; rintro e wd5 ⟨rfl, bd5⟩; have hd5 : Below Fc.heap.size Fc wd5 := (by first | exact below_then hd4 bd5 | exact below_then (below_then hd4 (below1 _ _)) bd5 | exact below_then (below_then hd4 (below2 _ _ _)) bd5); have lhd5 := hd5.size; have nhd5 : D ≠ wd5.heap.size := (by omega); have mhd5 : D ≠ wd5.heap.size + 1 := (by omega); have khd5 := fun o => hd5.cell (p := ⟨D, o, none⟩) hlt; have ig := ig.then_ (by first | exact bd5 | exact below_then (below1 _ _) bd5 | exact below_then (below2 _ _ _) bd5); (first | (have RB := row_then RB bd5; have cB := row_cells RB; have fB := rowf RB) | (have RB := row_then (row_then RB (below1 _ _)) bd5; have cB := row_cells RB; have fB := rowf RB) | (have RB := row_then (heap_alloc_new wd4 (box 0 0)) bd5; have cB := row_cells RB; have fB := rowf RB) | (have RB := row_then (row_then (heap_alloc_new wd4 (box 0 0)) (below1 _ _)) bd5; have cB := row_cells RB; have fB := rowf RB) | (have RB := row_then (heap_alloc_new (wd4.alloc _) (box 0 0)) bd5; rw [World.size_alloc] at RB; have cB := row_cells RB; have fB := rowf RB) | skip))
              | (go_at_call 8; (fail_if_success have := hd6); have := hd5; refine (acall (name := nDiv) [intT 1, intT 0] 2 rfl _ 2 _ ?_).mono ?_; (first | exact vals_in (heap_alloc_at _ _ _ rfl) rfl (VL.out _) | exact vals_in (heap_alloc_at _ _ _ (size_al _ _)) rfl (VL.out _) | exact vals_in (row_then (heap_alloc_at _ _ _ rfl) (below1 _ _)) rfl (VL.out _)); rintro e wd6 ⟨gv, gvx, rfl, bd6, iv⟩; have hd6 : Below Fc.heap.size Fc wd6 := (by first | exact below_then hd5 bd6 | exact below_then (below_then hd5 (below1 _ _)) bd6 | exact below_then (below_then hd5 (below2 _ _ _)) bd6); have lhd6 := hd6.size; have nhd6 : D ≠ wd6.heap.size := (by omega); have mhd6 : D ≠ wd6.heap.size + 1 := (by omega); have khd6 := fun o => hd6.cell (p := ⟨D, o, none⟩) hlt; have ig := ig.then_ (by first | exact bd6 | exact below_then (below1 _ _) bd6 | exact below_then (below2 _ _ _) bd6); (first | (have RB := row_then RB bd6; have cB := row_cells RB; have fB := rowf RB) | (have RB := row_then (row_then RB (below1 _ _)) bd6; have cB := row_cells RB; have fB := rowf RB) | (have RB := row_then (heap_alloc_new wd5 (box 0 0)) bd6; have cB := row_cells RB; have fB := rowf RB) | (have RB := row_then (row_then (heap_alloc_new wd5 (box 0 0)) (below1 _ _)) bd6; have cB := row_cells RB; have fB := rowf RB) | (have RB := row_then (heap_alloc_new (wd5.alloc _) (box 0 0)) bd6; rw [World.size_alloc] at RB; have cB := row_cells RB; have fB := rowf RB) | skip))
              | (go_at_call 8; (fail_if_success have := hd7); have := hd6; refine (acall (name := nCond) [callT nGt (some ⟨gg, 0, none⟩) 1 (some ⟨ggx, 0, none⟩) 2 [txtT sA, intT 3], txtT sBig, callT nDiv (some ⟨gv, 0, none⟩) 1 (some ⟨gvx, 0, none⟩) 2 [intT 1, intT 0]] 3 rfl _ 3 _ ?_).mono ?_; (first | exact vals_in (heap_alloc_at _ _ _ rfl) rfl (vin3 (ig.then_ (below1 _ _)) (txtT_in _ _) (iv.then_ (below1 _ _))) | exact vals_in (heap_alloc_at _ _ _ (size_al _ _)) rfl (vin3 (ig.then_ (below2 _ _ _)) (txtT_in _ _) (iv.then_ (below2 _ _ _))) | exact vals_in (row_then (heap_alloc_at _ _ _ rfl) (below1 _ _)) rfl (vin3 (ig.then_ (below2 _ _ _)) (txtT_in _ _) (iv.then_ (below2 _ _ _)))); rintro e wd7 ⟨gc, gcx, rfl, bd7, ic⟩; have hd7 : Below Fc.heap.size Fc wd7 := (by first | exact below_then hd6 bd7 | exact below_then (below_then hd6 (below1 _ _)) bd7 | exact below_then (below_then hd6 (below2 _ _ _)) bd7); have lhd7 := hd7.size; have nhd7 : D ≠ wd7.heap.size := (by omega); have mhd7 : D ≠ wd7.heap.size + 1 := (by omega); have khd7 := fun o => hd7.cell (p := ⟨D, o, none⟩) hlt; have ig := ig.then_ (by first | exact bd7 | exact below_then (below1 _ _) bd7 | exact below_then (below2 _ _ _) bd7); have iv := iv.then_ (by first | exact bd7 | exact below_then (below1 _ _) bd7 | exact below_then (below2 _ _ _) bd7); (first | (have RB := row_then RB bd7; have cB := row_cells RB; have fB := rowf RB) | (have RB := row_then (row_then RB (below1 _ _)) bd7; have cB := row_cells RB; have fB := rowf RB) | (have RB := row_then (heap_alloc_new wd6 (box 0 0)) bd7; have cB := row_cells RB; have fB := rowf RB) | (have RB := row_then (row_then (heap_alloc_new wd6 (box 0 0)) (below1 _ _)) bd7; have cB := row_cells RB; have fB := rowf RB) | (have RB := row_then (heap_alloc_new (wd6.alloc _) (box 0 0)) bd7; rw [World.size_alloc] at RB; have cB := row_cells RB; have fB := rowf RB) | skip))
              | (go_at_call 7; (fail_if_success have := hd8); have := hd7; refine (awork4 gd gc gcx gg gv ggx gvx _ (by first | exact ic | exact ic.then_ (below1 _ _)) (by first | exact HUd.out.1.then_ hd7 | exact HUd.out.1.then_ (below_then hd7 (below1 _ _)))).mono ?_; rintro e wd8 ⟨rfl, bd8⟩; have hd8 : Below Fc.heap.size Fc wd8 := (by first | exact below_then hd7 bd8 | exact below_then (below_then hd7 (below1 _ _)) bd8 | exact below_then (below_then hd7 (below2 _ _ _)) bd8); have lhd8 := hd8.size; have nhd8 : D ≠ wd8.heap.size := (by omega); have mhd8 : D ≠ wd8.heap.size + 1 := (by omega); have khd8 := fun o => hd8.cell (p := ⟨D, o, none⟩) hlt; have ig := ig.then_ (by first | exact bd8 | exact below_then (below1 _ _) bd8 | exact below_then (below2 _ _ _) bd8); have iv := iv.then_ (by first | exact bd8 | exact below_then (below1 _ _) bd8 | exact below_then (below2 _ _ _) bd8); have ic := ic.then_ (by first | exact bd8 | exact below_then (below1 _ _) bd8 | exact below_then (below2 _ _ _) bd8); (first | (have RB := row_then RB bd8; have cB := row_cells RB; have fB := rowf RB) | (have RB := row_then (row_then RB (below1 _ _)) bd8; have cB := row_cells RB; have fB := rowf RB) | (have RB := row_then (heap_alloc_new wd7 (box 0 0)) bd8; have cB := row_cells RB; have fB := rowf RB) | (have RB := row_then (row_then (heap_alloc_new wd7 (box 0 0)) (below1 _ _)) bd8; have cB := row_cells RB; have fB := rowf RB) | (have RB := row_then (heap_alloc_new (wd7.alloc _) (box 0 0)) bd8; rw [World.size_alloc] at RB; have cB := row_cells RB; have fB := rowf RB) | skip)))
          all_goals
            change Awd _ _ _ _
            unfold Awd
            simp only [List.getElem_toArray, List.getElem_cons_succ, List.getElem_cons_zero, Act.put, List.setIfInBounds_toArray, List.set_cons_succ, List.set_cons_zero]
            refine ⟨_, _, _, _, _, _, _, _, _, _, _, _, _, _, _, _, _, rfl, ?_⟩
            first | (have h := bx_put hd8 RB (by omega) (.int .i64 4) (.int .i64 0) (.string ⟨#[98, 105, 103]⟩) (.slice none 0 0) (.slice none 0 0); exact h) | (have h := bx_new hd8 (.int .i64 4) (.int .i64 0) (.string ⟨#[98, 105, 103]⟩) (.slice none 0 0) (.slice none 0 0); exact h)
        · rintro ad Fd ⟨bxd, vd36, vd37, vd38, vd39, vd40, vd41, vd42, vd43, vd44, vd45, vd46, vd47, vd48, vd49, vd50, vd51, rfl, hbd, hxd⟩
          refine ‹∀ (a : Act) (w : World), _ → _› _ _ ?_
          simp only [List.getElem_toArray, List.getElem_cons_succ, List.getElem_cons_zero, Act.put, List.setIfInBounds_toArray, List.set_cons_succ, List.set_cons_zero]
          have BE := Lib.hid (HUd.out.1.then_ hbd).bel
          have RA := row_then HXa.out hbd
          have RB := row_then HXb.out hbd
          have ca := row_cells RA
          have cb := row_cells RB
          have cd := row_cells hxd
          clear hbd hxd hlt nU d0 d1 d2 d3 d4 RA RB
          go_wp2_with fail
          go_ret
          exact ⟨rfl, BE.out⟩
end Go.Proofs.YtcpbdmgkeljkgaaGreatDoor
