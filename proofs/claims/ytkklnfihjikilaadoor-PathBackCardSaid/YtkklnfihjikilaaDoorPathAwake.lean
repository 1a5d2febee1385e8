/- The contract of awake of layer 4, the small case that each law of paths begins with: no statement is proved here. -/
import Derived.Test.YtkklnfihjikilaaDoorPathAwV
namespace Go.Proofs.YtkklnfihjikilaaDoor
open Go.RowKit
set_option maxRecDepth 100000

def Tabs4 (w : World) : Prop := Tabs w ∧ ∃ m : Int, w.cell? ⟨Tryd.laysSplitN_ren.g 1, 0, none⟩ = some (.int .i64 m)
theorem Tabs4.then_ {w w' : World} (h : Tabs4 w) (hb : Below w.heap.size w w') : Tabs4 w' := by
  obtain ⟨h1, m, hm⟩ := h
  exact ⟨h1.then_ hb, m, (hb.cell (cell_lt hm)).trans hm⟩
theorem docG_any (s : ByteArray) (k n : Int) (sx : ByteArray) (la : Option Addr) (ln lc : Nat) (da : Option Addr) (dn dc : Nat) (w : World) : Calls Tryd.prog 25 #[.string s, .agg #[.int .i64 k, .int .i64 n, .string sx, .slice la ln lc, .slice da dn dc]] w fun e w' =>
    ∃ g, e = .returned (.agg #[.int .i64 5, .int .i64 0, .string ⟨#[]⟩, .slice none 0 0, .slice (some ⟨g, 0, none⟩) 1 1]) ∧ w'.heap[g]? = some (.cells #[.string s, .int .i64 k, .int .i64 n, .string sx, .slice la ln lc, .slice da dn dc] 52 (0, 0)) ∧ Below w.heap.size w w' := by
  go_enter Tryd.func25, Tryd.ntmps25
  go_wp2_with fail
  refine bodyPost_ret (v := .agg #[.int .i64 5, .int .i64 0, .string ⟨#[]⟩, .slice none 0 0, .slice (some ⟨w.heap.size + 1 + 1, 0, none⟩) 1 1]) (by simp [results, Tryd.results25, go_sem]) rfl ⟨_, rfl, ?_, below3 _ _ _ _⟩
  exact heap_alloc_at _ _ _ (by simp)
theorem texts_in {w : World} {g : Nat} {l : List ByteArray} {t : TypeId} (h : w.heap[g]? = some (.cells (l.map Value.string).toArray t (0, 0))) : InS w (some ⟨g, 0, none⟩) l := fun i x hx =>
  ⟨g, 0, rfl, by have := row_cells h i; rw [Nat.zero_add, this, List.getElem?_toArray, List.getElem?_map, hx]; rfl⟩

theorem two_elems {w : World} {B : Nat} {a : Option Addr} {c : Nat} {ts : List T} {m n : Int} (h : (ownsL a c ts).Own w B) (hv : ts.map T.val = [leafV m, leafV n]) : ts.length = 2 ∧ ∃ g o, a = some ⟨g, o, none⟩ ∧ w.cell? ⟨g, o + 5 + 1, none⟩ = some (.int .i64 n) ∧ g < w.heap.size := by
  have hl : ts.length = 2 := by have := congrArg List.length hv; simpa using this
  have hin := (owns_in _ h.owns).parts.1
  obtain ⟨b, o, k1, n1, s1, la1, lc1, l1, da1, dc1, d1, ha, hx, -, -, x1, -, -, -⟩ := hin.five (i := 1) (by omega)
  have h2 := congrArg (·[1]?) hv
  simp only [List.getElem?_map, hx] at h2
  simp [T.val_mk, leafV] at h2
  obtain ⟨-, rfl, -⟩ := h2
  exact ⟨hl, b, o, ha, by simpa using x1, by simpa using cell_lt x1⟩
theorem set_ok {o : Int × V} {w : World} {e : Ending} {w' : World} (h0 : o.1 = 0) (h : SetsTo o w e w') : ∃ t' : T, e = .returned (.tuple #[t'.arg, .int .i64 0]) ∧ o = (0, t'.val) ∧ t'.Own w' w.heap.size ∧ Below w.heap.size w w' := by
  obtain ⟨hb, ⟨hne, -⟩ | ⟨-, t', rfl, hv, ho⟩⟩ := h
  · exact absurd h0 hne
  · exact ⟨t', rfl, by obtain ⟨o1, o2⟩ := o; simp only at h0 hv; rw [h0, hv], ho, hb⟩
theorem leaf_of {n : Int} {t : T} (h : some (leafV n) = some t.val) : ∃ la lc da dc, t = .mk 3 n ⟨#[]⟩ la lc [] da dc [] := by
  obtain ⟨k, m, s, la, lc, l, da, dc, d⟩ := t
  injection h with h
  rw [T.val_mk, leafV] at h
  injection h with h1 h2 h3 h4 h5
  subst h1 h2 h3
  have e1 : l = [] := by simpa using h4.symm
  have e2 : d = [] := by simpa using h5.symm
  subst e1 e2
  exact ⟨la, lc, da, dc, rfl⟩
theorem names_ok : ∀ x ∈ [nameL, name0, name1, nameB], okLen x.size := by
  intro x hx
  simp only [List.mem_cons, List.not_mem_nil, or_false] at hx
  rcases hx with rfl | rfl | rfl | rfl <;> simp [okLen, nameL, name0, name1, nameB, ByteArray.size]
theorem size_al (w : World) (o : Obj) : w.heap.size + 1 = (w.alloc o).heap.size := by simp
/-- Ways through a code that part and meet again: what they have in common. -/
theorem cut_code {P : Program} {c : Code} {K : Act → World → Prop} {Q : Exit → Act → World → Prop} {act : Act} {U : World} (R : Act → Act → World → Prop) (h1 : c.wp P (Exit.then (R act) Q) act U) (h2 : ∀ a w, R act a w → K a w) : c.wp P (Exit.then K Q) act U :=
  Code.wp_mono (fun e a w h => by cases e <;> first | exact h2 _ _ h | exact h) h1
def SetTail (w w8 : World) (gr orr : Nat) (X : Array Value) (bx : Nat) (t10 : T) (F : World) : Prop :=
  Below w.heap.size w F ∧ F.heap[bx]? = some (.cells t10.cells.toArray 31 (0, 0)) ∧ t10.In F ∧ t10.ok ∧ setO exV [nameL, name1, nameB] (leafV 7) = (0, t10.val) ∧ F.heap[w8.heap.size]? = some (.cells X 31 (0, 0)) ∧ F.cell? ⟨gr, orr + 5 + 1, none⟩ = some (.int .i64 3)
def SetDone (w w8 : World) (gr orr : Nat) (X : Array Value) (act a : Act) (F : World) : Prop :=
  ∃ (bx : Nat) (v28 v29 v30 v31 v32 v33 : Value) (t10 : T), a = ((((((((act.put (some 5) (.pointer (some ⟨bx, 0, none⟩))).put (some 6) (.int .i64 0)).put (some 28) v28).put (some 29) v29).put (some 30) v30).put (some 31) v31).put (some 32) v32).put (some 33) v33).put (some 34) (.int .i64 0) ∧ SetTail w w8 gr orr X bx t10 F
/-- A box that stood there before the call, and a value that the call has made. -/
def BoxR (w10 : World) (g : Nat) (t10 : T) : Prop := w10.heap[g]? = some (.cells #[.int .i64 0, .int .i64 0, .string ⟨#[]⟩, .slice none 0 0, .slice none 0 0] 31 (0, 0)) ∧ ∃ B, g < B ∧ t10.Own w10 B
theorem box_end {W w10 : World} {t10 : T} {g : Nat} (ho : t10.Own w10 W.heap.size) (b10 : Below W.heap.size W w10) (hr : W.heap[g]? = some (.cells #[.int .i64 0, .int .i64 0, .string ⟨#[]⟩, .slice none 0 0, .slice none 0 0] 31 (0, 0))) : BoxR w10 g t10 :=
  ⟨row_then hr b10, _, lt_of_block hr, ho⟩
theorem tail_new {w w8 U w10 : World} {gr orr B : Nat} {X : Array Value} {t10 : T} (BW : Below w.heap.size w U) (BU : Below U.heap.size U w10) (xb : U.heap[w8.heap.size]? = some (.cells X 31 (0, 0))) (cr : U.cell? ⟨gr, orr + 5 + 1, none⟩ = some (.int .i64 3)) (ho : t10.Own w10 B) (hs : setO exV [nameL, name1, nameB] (leafV 7) = (0, t10.val)) :
    SetTail w w8 gr orr X w10.heap.size t10 (w10.alloc (.cells t10.cells.toArray 31)) := by
  have b := below_then BU (below1 w10 (.cells t10.cells.toArray 31))
  exact ⟨below_then BW b, heap_alloc_new w10 _, (owns_in _ ho.owns).then_ (below1 w10 _), ho.ok, hs, row_then xb b, (b.cell (cell_lt cr)).trans cr⟩
theorem tail_set {w w8 U w10 : World} {gr orr g : Nat} {X : Array Value} {k n : Int} {s : ByteArray} {la : Option Addr} {lc : Nat} {l : List T} {da : Option Addr} {dc : Nat} {d : List (ByteArray × T)} (BW : Below w.heap.size w U) (BU : Below U.heap.size U w10) (xb : U.heap[w8.heap.size]? = some (.cells X 31 (0, 0))) (cr : U.cell? ⟨gr, orr + 5 + 1, none⟩ = some (.int .i64 3))
    (RB : BoxR w10 g (.mk k n s la lc l da dc d)) (hg : U.heap.size ≤ g) (hs : setO exV [nameL, name1, nameB] (leafV 7) = (0, T.val (.mk k n s la lc l da dc d))) :
    SetTail w w8 gr orr X g (.mk k n s la lc l da dc d) (((((w10.setCell ⟨g, 0, none⟩ (.int .i64 k)).setCell ⟨g, 1, none⟩ (.int .i64 n)).setCell ⟨g, 2, none⟩ (.string s)).setCell ⟨g, 3, none⟩ (.slice la l.length lc)).setCell ⟨g, 4, none⟩ (.slice da d.length dc)) := by
  obtain ⟨hr, B, hB, ho⟩ := RB
  have o5 := only_set5 w10 g (.int .i64 k) (.int .i64 n) (.string s) (.slice la l.length lc) (.slice da d.length dc)
  have bF : Below U.heap.size U _ := ((Only.of_below (S := []) BU).then_ o5 (by simp; omega)).below
  have hk := ho.keep o5 (by simp; omega) (Nat.le_refl _)
  exact ⟨below_then BW bF, set5_row _ _ _ _ _ hr, owns_in _ hk.owns, hk.ok, hs, row_then xb bF, (bF.cell (cell_lt cr)).trans cr⟩
set_option maxHeartbeats 8000000 in
theorem awake04_any (w : World) (hT : Tabs4 w) : Calls Tryd.prog 8 #[] w fun e w' => e = .returned (.bool true) ∧ Below w.heap.size w w' := by
  have HT := Lib.hid hT
  clear hT
  go_enter Tryd.func8, Tryd.ntmps8
  go_wp2_with fail
  refine (int_any _ _).mono ?_
  rintro e w1 ⟨rfl, b1⟩
  go_wp2_with fail
  refine (doc_any _ _ _).mono ?_
  rintro e w2 ⟨g2, rfl, h2, b2⟩
  have B2 := Lib.hid (below_then b1 b2)
  have H2 := Lib.hid h2
  clear b1 b2 h2
  go_wp2_with fail
  refine (int_any _ _).mono ?_
  rintro e w3 ⟨rfl, b3⟩
  go_wp2_with fail
  refine (doc_any _ _ _).mono ?_
  rintro e w4 ⟨g3, rfl, h3, b4⟩
  have B4 := Lib.hid (below_then B2.out (below_then b3 b4))
  have H42 := Lib.hid (row_then H2.out (below_then b3 b4))
  have H43 := Lib.hid h3
  clear b3 b4 h3 B2 H2
  go_wp2_with fail
  refine (int_any _ _).mono ?_
  rintro e w5 ⟨rfl, b5⟩
  have B5 := Lib.hid (below_then B4.out b5)
  have H52 := Lib.hid (row_then H42.out b5)
  have H53 := Lib.hid (row_then H43.out b5)
  clear b5 B4 H42 H43
  go_wp2_with fail
  refine (docG_any _ _ _ _ _ _ _ _ _ _ _).mono ?_
  rintro e w6 ⟨gd, rfl, hd, b6⟩
  have hl := row_then (heap_alloc_new w5 _) b6
  have B56 := below_then (below1 w5 _) b6
  have HD6 := Lib.hid (ex_in (row_then H52.out B56) (row_then H53.out B56) hl hd)
  have B6 := Lib.hid (below_then B5.out B56)
  have OD := Lib.hid (ex_ok gd w5.heap.size g2 g3)
  have HR := Lib.hid (ex_room gd w5.heap.size g2 g3)
  clear hl hd b6 B56 B5 H52 H53
  generalize w5.heap.size = gl at HD6 OD HR ⊢
  go_wp2_with fail
  have R6 := heap_alloc2_old w6 (.cells #[.int .i64 5, .int .i64 0, .string ⟨#[]⟩, .slice none 0 0, .slice (some ⟨gd, 0, none⟩) 1 1] 31) (.cells #[.string ⟨#[108]⟩, .string ⟨#[98]⟩] 9)
  refine (reach_any (exT gd gl g2 g3) OD.out (some ⟨w6.heap.size + 1, 0, none⟩) 2 [nameL, nameB] _ (HD6.out.then_ (below2 _ _ _)) ⟨texts_in (heap_alloc2_new _ _ _), by simp, fun x hx => names_ok x (by simp at hx ⊢; rcases hx with h | h <;> simp [h])⟩).mono ?_
  rintro e w7 ⟨ra, rc, ts, rfl, hts, hown, b7⟩
  rw [ex_val, ex_reach] at hts
  obtain ⟨hl1, gr, orr, rfl, cr, hgr⟩ := two_elems hown hts
  rw [hl1]
  have R7 := row_then R6 b7
  have X7 := row_cells R7
  have B67 := below_then (below2 w6 _ _) b7
  have HD7 := Lib.hid (HD6.out.then_ B67)
  have B7 := Lib.hid (below_then B6.out B67)
  have CR := Lib.hid cr
  clear hts hown b7 B67 cr R6 HD6 B6 hl1
  go_wp2_with fail
  refine (at_any (exT gd gl g2 g3) OD.out (some ⟨w7.heap.size, 0, none⟩) 3 [nameL, name0, nameB] _ (HD7.out.then_ (below1 _ _)) ⟨texts_in (heap_alloc_new _ _), by simp, fun x hx => names_ok x (by simp at hx ⊢; rcases hx with h | h | h <;> simp [h])⟩).mono ?_
  rintro e w8 (⟨h8, -⟩ | ⟨t8, h8, rfl, -, b8⟩)
  · rw [ex_val, ex_at] at h8
    cases h8
  rw [ex_val, ex_at] at h8
  obtain ⟨la8, lc8, da8, dc8, rfl⟩ := leaf_of h8
  dsimp only [T.arg, T.cells, List.length_nil]
  have B78 := below_then (below1 w7 _) b8
  have R8 := row_then R7 B78
  have HD8 := Lib.hid (HD7.out.then_ B78)
  have B8 := Lib.hid (below_then B7.out B78)
  have CR8 := Lib.hid ((B78.cell (by exact hgr)).trans CR.out)
  have hgr8 : gr < w8.heap.size := Nat.lt_of_lt_of_le hgr B78.size
  clear R7 X7 B78 HD7 B7 CR hgr h8 b8
  have X8 := row_cells R8
  go_wp2_with fail
  have BU := below1 w8 (.cells #[.int .i64 3, .int .i64 2, .string ⟨#[]⟩, .slice la8 0 lc8, .slice da8 0 dc8] 31)
  have RX := heap_alloc_new w8 (.cells #[.int .i64 3, .int .i64 2, .string ⟨#[]⟩, .slice la8 0 lc8, .slice da8 0 dc8] 31)
  have RU := row_then R8 BU
  have HDU0 := HD8.out.then_ BU
  have BWU := below_then B8.out BU
  have CRU := (BU.cell (by exact hgr8)).trans CR8.out
  generalize w8.alloc (.cells #[.int .i64 3, .int .i64 2, .string ⟨#[]⟩, .slice la8 0 lc8, .slice da8 0 dc8] 31) = U at BU RX RU HDU0 BWU CRU ⊢
  have XU := row_cells RU
  have HDU := Lib.hid (fun W (h : Below U.heap.size U W) => HDU0.then_ h)
  have LO := Lib.hid (leaf_ok (n := 7) (by unfold okInt; omega))
  have NOK := Lib.hid (show ∀ x ∈ [nameL, name1, nameB], okLen x.size from fun x hx => names_ok x (by simp at hx ⊢; rcases hx with h | h | h <;> simp [h]))
  have lU := lt_of_block RU
  have lV : w6.heap.size < U.heap.size + 1 := Nat.lt_succ_of_lt lU
  refine cut_code (SetDone w w8 gr orr #[.int .i64 3, .int .i64 2, .string ⟨#[]⟩, .slice la8 0 lc8, .slice da8 0 dc8]) ?_ ?_
  · clear BU R8 X8 HD8 CR8 hgr8 HDU0 B8
    replace RX := Lib.hid RX
    replace CRU := Lib.hid CRU
    replace BWU := Lib.hid BWU
    go_region_law (first
    | (refine step_enter (o := { dst := some 31, op := _, type := _, pos := _, after := _, guard := none }) rfl 26 #[.int .i64 7] (by go_simp) ((int_any 7 _).mono ?_); rintro e w9 ⟨rfl, b9⟩; have c9 := drop_drew2 b9; have BU9 : Below U.heap.size U w9 := (by first | exact c9 | exact below_then (below1 _ _) c9 | exact below_then (below2 _ _ _) c9); have RU9 := row_then RU BU9; have XU9 := row_cells RU9; have lD9 : w6.heap.size < w9.heap.size := Nat.lt_of_lt_of_le lU BU9.size; have lE9 : w6.heap.size < w9.heap.size + 1 := Nat.lt_succ_of_lt lD9; refine ⟨_, rfl, ?_⟩)
    | (refine step_enter (o := { dst := some 32, op := _, type := _, pos := _, after := _, guard := none }) rfl 12 #[.agg #[.int .i64 5, .int .i64 0, .string ⟨#[]⟩, .slice none 0 0, .slice (some ⟨gd, 0, none⟩) 1 1], .slice (some ⟨U.heap.size, 0, none⟩) 3 3, .agg #[.int .i64 3, .int .i64 7, .string ⟨#[]⟩, .slice none 0 0, .slice none 0 0]] (by go_simp) ((Set_any (exT gd gl g2 g3) (leafT 7) OD.out LO.out (some ⟨U.heap.size, 0, none⟩) 3 [nameL, name1, nameB] HR.out _ (HDU.out _ (by first | exact BU9 | exact below_then BU9 (below1 _ _) | exact below_then BU9 (below2 _ _ _))) (leaf_in _ 7) ⟨texts_in (t := 9) (by first | exact (heap_alloc_at _ _ _ rfl) | exact (heap_alloc_at _ _ _ (size_al _ _)) | exact row_then (heap_alloc_at _ _ _ rfl) c9 | exact row_then (heap_alloc_at _ _ _ (size_al _ _)) c9 | exact row_then (heap_alloc_at _ _ _ rfl) (below1 _ _) | exact row_then (heap_alloc_at _ _ _ (size_al _ _)) (below1 _ _) | exact row_then (row_then (heap_alloc_at _ _ _ rfl) (below1 _ _)) c9 | exact row_then (row_then (heap_alloc_at _ _ _ (size_al _ _)) (below1 _ _)) c9 | exact row_then (row_then (heap_alloc_at _ _ _ rfl) c9) (below1 _ _) | exact row_then (row_then (heap_alloc_at _ _ _ (size_al _ _)) c9) (below1 _ _) | fail), by simp, NOK.out⟩).mono ?_); rintro e w10 hst; obtain ⟨⟨k10, n10, s10, la10, lc10, l10, da10, dc10, d10⟩, rfl, hv10, ho10, b10⟩ := set_ok (by rw [ex_val]; exact ex_set) hst; clear hst; have BU10 : Below U.heap.size U w10 := (by first | exact below_then BU9 b10 | exact below_then (below_then BU9 (below1 _ _)) b10 | exact below_then (below_then BU9 (below2 _ _ _)) b10 | fail); (try (have RB : BoxR w10 (U.heap.size) (.mk k10 n10 s10 la10 lc10 l10 da10 dc10 d10) := (by first | exact box_end ho10 b10 (heap_alloc_at _ _ _ rfl) | exact box_end ho10 b10 (heap_alloc_at _ _ _ (size_al _ _)) | exact box_end ho10 b10 (row_then (heap_alloc_at _ _ _ rfl) (below1 _ _)) | exact box_end ho10 b10 (row_then (heap_alloc_at _ _ _ (size_al _ _)) (below1 _ _)) | exact box_end ho10 b10 (row_then (heap_alloc_at _ _ _ rfl) c9) | exact box_end ho10 b10 (row_then (heap_alloc_at _ _ _ (size_al _ _)) c9) | exact box_end ho10 b10 (row_then (row_then (heap_alloc_at _ _ _ rfl) (below1 _ _)) c9) | exact box_end ho10 b10 (row_then (row_then (heap_alloc_at _ _ _ (size_al _ _)) (below1 _ _)) c9) | exact box_end ho10 b10 (row_then (row_then (heap_alloc_at _ _ _ rfl) c9) (below1 _ _)) | exact box_end ho10 b10 (row_then (row_then (heap_alloc_at _ _ _ (size_al _ _)) c9) (below1 _ _)) | fail); have XB := row_cells RB.1; have YB := row_free RB.1)); (try (have RB : BoxR w10 (w9.heap.size) (.mk k10 n10 s10 la10 lc10 l10 da10 dc10 d10) := (by first | exact box_end ho10 b10 (heap_alloc_at _ _ _ rfl) | exact box_end ho10 b10 (heap_alloc_at _ _ _ (size_al _ _)) | exact box_end ho10 b10 (row_then (heap_alloc_at _ _ _ rfl) (below1 _ _)) | exact box_end ho10 b10 (row_then (heap_alloc_at _ _ _ (size_al _ _)) (below1 _ _)) | exact box_end ho10 b10 (row_then (heap_alloc_at _ _ _ rfl) c9) | exact box_end ho10 b10 (row_then (heap_alloc_at _ _ _ (size_al _ _)) c9) | exact box_end ho10 b10 (row_then (row_then (heap_alloc_at _ _ _ rfl) (below1 _ _)) c9) | exact box_end ho10 b10 (row_then (row_then (heap_alloc_at _ _ _ (size_al _ _)) (below1 _ _)) c9) | exact box_end ho10 b10 (row_then (row_then (heap_alloc_at _ _ _ rfl) c9) (below1 _ _)) | exact box_end ho10 b10 (row_then (row_then (heap_alloc_at _ _ _ (size_al _ _)) c9) (below1 _ _)) | fail); have XB := row_cells RB.1; have YB := row_free RB.1)); (try (have RB : BoxR w10 (U.heap.size + 1) (.mk k10 n10 s10 la10 lc10 l10 da10 dc10 d10) := (by first | exact box_end ho10 b10 (heap_alloc_at _ _ _ rfl) | exact box_end ho10 b10 (heap_alloc_at _ _ _ (size_al _ _)) | exact box_end ho10 b10 (row_then (heap_alloc_at _ _ _ rfl) (below1 _ _)) | exact box_end ho10 b10 (row_then (heap_alloc_at _ _ _ (size_al _ _)) (below1 _ _)) | exact box_end ho10 b10 (row_then (heap_alloc_at _ _ _ rfl) c9) | exact box_end ho10 b10 (row_then (heap_alloc_at _ _ _ (size_al _ _)) c9) | exact box_end ho10 b10 (row_then (row_then (heap_alloc_at _ _ _ rfl) (below1 _ _)) c9) | exact box_end ho10 b10 (row_then (row_then (heap_alloc_at _ _ _ (size_al _ _)) (below1 _ _)) c9) | exact box_end ho10 b10 (row_then (row_then (heap_alloc_at _ _ _ rfl) c9) (below1 _ _)) | exact box_end ho10 b10 (row_then (row_then (heap_alloc_at _ _ _ (size_al _ _)) c9) (below1 _ _)) | fail); have XB := row_cells RB.1; have YB := row_free RB.1)); (try (have RB : BoxR w10 (w9.heap.size + 1) (.mk k10 n10 s10 la10 lc10 l10 da10 dc10 d10) := (by first | exact box_end ho10 b10 (heap_alloc_at _ _ _ rfl) | exact box_end ho10 b10 (heap_alloc_at _ _ _ (size_al _ _)) | exact box_end ho10 b10 (row_then (heap_alloc_at _ _ _ rfl) (below1 _ _)) | exact box_end ho10 b10 (row_then (heap_alloc_at _ _ _ (size_al _ _)) (below1 _ _)) | exact box_end ho10 b10 (row_then (heap_alloc_at _ _ _ rfl) c9) | exact box_end ho10 b10 (row_then (heap_alloc_at _ _ _ (size_al _ _)) c9) | exact box_end ho10 b10 (row_then (row_then (heap_alloc_at _ _ _ rfl) (below1 _ _)) c9) | exact box_end ho10 b10 (row_then (row_then (heap_alloc_at _ _ _ (size_al _ _)) (below1 _ _)) c9) | exact box_end ho10 b10 (row_then (row_then (heap_alloc_at _ _ _ rfl) c9) (below1 _ _)) | exact box_end ho10 b10 (row_then (row_then (heap_alloc_at _ _ _ (size_al _ _)) c9) (below1 _ _)) | fail); have XB := row_cells RB.1; have YB := row_free RB.1)); refine ⟨_, rfl, ?_⟩; dsimp only [T.arg, T.cells])
    | (refine step_enter (o := { dst := some 32, op := _, type := _, pos := _, after := _, guard := none }) rfl 12 #[.agg #[.int .i64 5, .int .i64 0, .string ⟨#[]⟩, .slice none 0 0, .slice (some ⟨gd, 0, none⟩) 1 1], .slice (some ⟨w9.heap.size, 0, none⟩) 3 3, .agg #[.int .i64 3, .int .i64 7, .string ⟨#[]⟩, .slice none 0 0, .slice none 0 0]] (by go_simp) ((Set_any (exT gd gl g2 g3) (leafT 7) OD.out LO.out (some ⟨w9.heap.size, 0, none⟩) 3 [nameL, name1, nameB] HR.out _ (HDU.out _ (by first | exact BU9 | exact below_then BU9 (below1 _ _) | exact below_then BU9 (below2 _ _ _))) (leaf_in _ 7) ⟨texts_in (t := 9) (by first | exact (heap_alloc_at _ _ _ rfl) | exact (heap_alloc_at _ _ _ (size_al _ _)) | exact row_then (heap_alloc_at _ _ _ rfl) c9 | exact row_then (heap_alloc_at _ _ _ (size_al _ _)) c9 | exact row_then (heap_alloc_at _ _ _ rfl) (below1 _ _) | exact row_then (heap_alloc_at _ _ _ (size_al _ _)) (below1 _ _) | exact row_then (row_then (heap_alloc_at _ _ _ rfl) (below1 _ _)) c9 | exact row_then (row_then (heap_alloc_at _ _ _ (size_al _ _)) (below1 _ _)) c9 | exact row_then (row_then (heap_alloc_at _ _ _ rfl) c9) (below1 _ _) | exact row_then (row_then (heap_alloc_at _ _ _ (size_al _ _)) c9) (below1 _ _) | fail), by simp, NOK.out⟩).mono ?_); rintro e w10 hst; obtain ⟨⟨k10, n10, s10, la10, lc10, l10, da10, dc10, d10⟩, rfl, hv10, ho10, b10⟩ := set_ok (by rw [ex_val]; exact ex_set) hst; clear hst; have BU10 : Below U.heap.size U w10 := (by first | exact below_then BU9 b10 | exact below_then (below_then BU9 (below1 _ _)) b10 | exact below_then (below_then BU9 (below2 _ _ _)) b10 | fail); (try (have RB : BoxR w10 (U.heap.size) (.mk k10 n10 s10 la10 lc10 l10 da10 dc10 d10) := (by first | exact box_end ho10 b10 (heap_alloc_at _ _ _ rfl) | exact box_end ho10 b10 (heap_alloc_at _ _ _ (size_al _ _)) | exact box_end ho10 b10 (row_then (heap_alloc_at _ _ _ rfl) (below1 _ _)) | exact box_end ho10 b10 (row_then (heap_alloc_at _ _ _ (size_al _ _)) (below1 _ _)) | exact box_end ho10 b10 (row_then (heap_alloc_at _ _ _ rfl) c9) | exact box_end ho10 b10 (row_then (heap_alloc_at _ _ _ (size_al _ _)) c9) | exact box_end ho10 b10 (row_then (row_then (heap_alloc_at _ _ _ rfl) (below1 _ _)) c9) | exact box_end ho10 b10 (row_then (row_then (heap_alloc_at _ _ _ (size_al _ _)) (below1 _ _)) c9) | exact box_end ho10 b10 (row_then (row_then (heap_alloc_at _ _ _ rfl) c9) (below1 _ _)) | exact box_end ho10 b10 (row_then (row_then (heap_alloc_at _ _ _ (size_al _ _)) c9) (below1 _ _)) | fail); have XB := row_cells RB.1; have YB := row_free RB.1)); (try (have RB : BoxR w10 (w9.heap.size) (.mk k10 n10 s10 la10 lc10 l10 da10 dc10 d10) := (by first | exact box_end ho10 b10 (heap_alloc_at _ _ _ rfl) | exact box_end ho10 b10 (heap_alloc_at _ _ _ (size_al _ _)) | exact box_end ho10 b10 (row_then (heap_alloc_at _ _ _ rfl) (below1 _ _)) | exact box_end ho10 b10 (row_then (heap_alloc_at _ _ _ (size_al _ _)) (below1 _ _)) | exact box_end ho10 b10 (row_then (heap_alloc_at _ _ _ rfl) c9) | exact box_end ho10 b10 (row_then (heap_alloc_at _ _ _ (size_al _ _)) c9) | exact box_end ho10 b10 (row_then (row_then (heap_alloc_at _ _ _ rfl) (below1 _ _)) c9) | exact box_end ho10 b10 (row_then (row_then (heap_alloc_at _ _ _ (size_al _ _)) (below1 _ _)) c9) | exact box_end ho10 b10 (row_then (row_then (heap_alloc_at _ _ _ rfl) c9) (below1 _ _)) | exact box_end ho10 b10 (row_then (row_then (heap_alloc_at _ _ _ (size_al _ _)) c9) (below1 _ _)) | fail); have XB := row_cells RB.1; have YB := row_free RB.1)); (try (have RB : BoxR w10 (U.heap.size + 1) (.mk k10 n10 s10 la10 lc10 l10 da10 dc10 d10) := (by first | exact box_end ho10 b10 (heap_alloc_at _ _ _ rfl) | exact box_end ho10 b10 (heap_alloc_at _ _ _ (size_al _ _)) | exact box_end ho10 b10 (row_then (heap_alloc_at _ _ _ rfl) (below1 _ _)) | exact box_end ho10 b10 (row_then (heap_alloc_at _ _ _ (size_al _ _)) (below1 _ _)) | exact box_end ho10 b10 (row_then (heap_alloc_at _ _ _ rfl) c9) | exact box_end ho10 b10 (row_then (heap_alloc_at _ _ _ (size_al _ _)) c9) | exact box_end ho10 b10 (row_then (row_then (heap_alloc_at _ _ _ rfl) (below1 _ _)) c9) | exact box_end ho10 b10 (row_then (row_then (heap_alloc_at _ _ _ (size_al _ _)) (below1 _ _)) c9) | exact box_end ho10 b10 (row_then (row_then (heap_alloc_at _ _ _ rfl) c9) (below1 _ _)) | exact box_end ho10 b10 (row_then (row_then (heap_alloc_at _ _ _ (size_al _ _)) c9) (below1 _ _)) | fail); have XB := row_cells RB.1; have YB := row_free RB.1)); (try (have RB : BoxR w10 (w9.heap.size + 1) (.mk k10 n10 s10 la10 lc10 l10 da10 dc10 d10) := (by first | exact box_end ho10 b10 (heap_alloc_at _ _ _ rfl) | exact box_end ho10 b10 (heap_alloc_at _ _ _ (size_al _ _)) | exact box_end ho10 b10 (row_then (heap_alloc_at _ _ _ rfl) (below1 _ _)) | exact box_end ho10 b10 (row_then (heap_alloc_at _ _ _ (size_al _ _)) (below1 _ _)) | exact box_end ho10 b10 (row_then (heap_alloc_at _ _ _ rfl) c9) | exact box_end ho10 b10 (row_then (heap_alloc_at _ _ _ (size_al _ _)) c9) | exact box_end ho10 b10 (row_then (row_then (heap_alloc_at _ _ _ rfl) (below1 _ _)) c9) | exact box_end ho10 b10 (row_then (row_then (heap_alloc_at _ _ _ (size_al _ _)) (below1 _ _)) c9) | exact box_end ho10 b10 (row_then (row_then (heap_alloc_at _ _ _ rfl) c9) (below1 _ _)) | exact box_end ho10 b10 (row_then (row_then (heap_alloc_at _ _ _ (size_al _ _)) c9) (below1 _ _)) | fail); have XB := row_cells RB.1; have YB := row_free RB.1)); refine ⟨_, rfl, ?_⟩; dsimp only [T.arg, T.cells])
    | (refine step_enter (o := { dst := some 32, op := _, type := _, pos := _, after := _, guard := none }) rfl 12 #[.agg #[.int .i64 5, .int .i64 0, .string ⟨#[]⟩, .slice none 0 0, .slice (some ⟨gd, 0, none⟩) 1 1], .slice (some ⟨U.heap.size + 1, 0, none⟩) 3 3, .agg #[.int .i64 3, .int .i64 7, .string ⟨#[]⟩, .slice none 0 0, .slice none 0 0]] (by go_simp) ((Set_any (exT gd gl g2 g3) (leafT 7) OD.out LO.out (some ⟨U.heap.size + 1, 0, none⟩) 3 [nameL, name1, nameB] HR.out _ (HDU.out _ (by first | exact BU9 | exact below_then BU9 (below1 _ _) | exact below_then BU9 (below2 _ _ _))) (leaf_in _ 7) ⟨texts_in (t := 9) (by first | exact (heap_alloc_at _ _ _ rfl) | exact (heap_alloc_at _ _ _ (size_al _ _)) | exact row_then (heap_alloc_at _ _ _ rfl) c9 | exact row_then (heap_alloc_at _ _ _ (size_al _ _)) c9 | exact row_then (heap_alloc_at _ _ _ rfl) (below1 _ _) | exact row_then (heap_alloc_at _ _ _ (size_al _ _)) (below1 _ _) | exact row_then (row_then (heap_alloc_at _ _ _ rfl) (below1 _ _)) c9 | exact row_then (row_then (heap_alloc_at _ _ _ (size_al _ _)) (below1 _ _)) c9 | exact row_then (row_then (heap_alloc_at _ _ _ rfl) c9) (below1 _ _) | exact row_then (row_then (heap_alloc_at _ _ _ (size_al _ _)) c9) (below1 _ _) | fail), by simp, NOK.out⟩).mono ?_); rintro e w10 hst; obtain ⟨⟨k10, n10, s10, la10, lc10, l10, da10, dc10, d10⟩, rfl, hv10, ho10, b10⟩ := set_ok (by rw [ex_val]; exact ex_set) hst; clear hst; have BU10 : Below U.heap.size U w10 := (by first | exact below_then BU9 b10 | exact below_then (below_then BU9 (below1 _ _)) b10 | exact below_then (below_then BU9 (below2 _ _ _)) b10 | fail); (try (have RB : BoxR w10 (U.heap.size) (.mk k10 n10 s10 la10 lc10 l10 da10 dc10 d10) := (by first | exact box_end ho10 b10 (heap_alloc_at _ _ _ rfl) | exact box_end ho10 b10 (heap_alloc_at _ _ _ (size_al _ _)) | exact box_end ho10 b10 (row_then (heap_alloc_at _ _ _ rfl) (below1 _ _)) | exact box_end ho10 b10 (row_then (heap_alloc_at _ _ _ (size_al _ _)) (below1 _ _)) | exact box_end ho10 b10 (row_then (heap_alloc_at _ _ _ rfl) c9) | exact box_end ho10 b10 (row_then (heap_alloc_at _ _ _ (size_al _ _)) c9) | exact box_end ho10 b10 (row_then (row_then (heap_alloc_at _ _ _ rfl) (below1 _ _)) c9) | exact box_end ho10 b10 (row_then (row_then (heap_alloc_at _ _ _ (size_al _ _)) (below1 _ _)) c9) | exact box_end ho10 b10 (row_then (row_then (heap_alloc_at _ _ _ rfl) c9) (below1 _ _)) | exact box_end ho10 b10 (row_then (row_then (heap_alloc_at _ _ _ (size_al _ _)) c9) (below1 _ _)) | fail); have XB := row_cells RB.1; have YB := row_free RB.1)); (try (have RB : BoxR w10 (w9.heap.size) (.mk k10 n10 s10 la10 lc10 l10 da10 dc10 d10) := (by first | exact box_end ho10 b10 (heap_alloc_at _ _ _ rfl) | exact box_end ho10 b10 (heap_alloc_at _ _ _ (size_al _ _)) | exact box_end ho10 b10 (row_then (heap_alloc_at _ _ _ rfl) (below1 _ _)) | exact box_end ho10 b10 (row_then (heap_alloc_at _ _ _ (size_al _ _)) (below1 _ _)) | exact box_end ho10 b10 (row_then (heap_alloc_at _ _ _ rfl) c9) | exact box_end ho10 b10 (row_then (heap_alloc_at _ _ _ (size_al _ _)) c9) | exact box_end ho10 b10 (row_then (row_then (heap_alloc_at _ _ _ rfl) (below1 _ _)) c9) | exact box_end ho10 b10 (row_then (row_then (heap_alloc_at _ _ _ (size_al _ _)) (below1 _ _)) c9) | exact box_end ho10 b10 (row_then (row_then (heap_alloc_at _ _ _ rfl) c9) (below1 _ _)) | exact box_end ho10 b10 (row_then (row_then (heap_alloc_at _ _ _ (size_al _ _)) c9) (below1 _ _)) | fail); have XB := row_cells RB.1; have YB := row_free RB.1)); (try (have RB : BoxR w10 (U.heap.size + 1) (.mk k10 n10 s10 la10 lc10 l10 da10 dc10 d10) := (by first | exact box_end ho10 b10 (heap_alloc_at _ _ _ rfl) | exact box_end ho10 b10 (heap_alloc_at _ _ _ (size_al _ _)) | exact box_end ho10 b10 (row_then (heap_alloc_at _ _ _ rfl) (below1 _ _)) | exact box_end ho10 b10 (row_then (heap_alloc_at _ _ _ (size_al _ _)) (below1 _ _)) | exact box_end ho10 b10 (row_then (heap_alloc_at _ _ _ rfl) c9) | exact box_end ho10 b10 (row_then (heap_alloc_at _ _ _ (size_al _ _)) c9) | exact box_end ho10 b10 (row_then (row_then (heap_alloc_at _ _ _ rfl) (below1 _ _)) c9) | exact box_end ho10 b10 (row_then (row_then (heap_alloc_at _ _ _ (size_al _ _)) (below1 _ _)) c9) | exact box_end ho10 b10 (row_then (row_then (heap_alloc_at _ _ _ rfl) c9) (below1 _ _)) | exact box_end ho10 b10 (row_then (row_then (heap_alloc_at _ _ _ (size_al _ _)) c9) (below1 _ _)) | fail); have XB := row_cells RB.1; have YB := row_free RB.1)); (try (have RB : BoxR w10 (w9.heap.size + 1) (.mk k10 n10 s10 la10 lc10 l10 da10 dc10 d10) := (by first | exact box_end ho10 b10 (heap_alloc_at _ _ _ rfl) | exact box_end ho10 b10 (heap_alloc_at _ _ _ (size_al _ _)) | exact box_end ho10 b10 (row_then (heap_alloc_at _ _ _ rfl) (below1 _ _)) | exact box_end ho10 b10 (row_then (heap_alloc_at _ _ _ (size_al _ _)) (below1 _ _)) | exact box_end ho10 b10 (row_then (heap_alloc_at _ _ _ rfl) c9) | exact box_end ho10 b10 (row_then (heap_alloc_at _ _ _ (size_al _ _)) c9) | exact box_end ho10 b10 (row_then (row_then (heap_alloc_at _ _ _ rfl) (below1 _ _)) c9) | exact box_end ho10 b10 (row_then (row_then (heap_alloc_at _ _ _ (size_al _ _)) (below1 _ _)) c9) | exact box_end ho10 b10 (row_then (row_then (heap_alloc_at _ _ _ rfl) c9) (below1 _ _)) | exact box_end ho10 b10 (row_then (row_then (heap_alloc_at _ _ _ (size_al _ _)) c9) (below1 _ _)) | fail); have XB := row_cells RB.1; have YB := row_free RB.1)); refine ⟨_, rfl, ?_⟩; dsimp only [T.arg, T.cells])
    | (refine step_enter (o := { dst := some 32, op := _, type := _, pos := _, after := _, guard := none }) rfl 12 #[.agg #[.int .i64 5, .int .i64 0, .string ⟨#[]⟩, .slice none 0 0, .slice (some ⟨gd, 0, none⟩) 1 1], .slice (some ⟨w9.heap.size + 1, 0, none⟩) 3 3, .agg #[.int .i64 3, .int .i64 7, .string ⟨#[]⟩, .slice none 0 0, .slice none 0 0]] (by go_simp) ((Set_any (exT gd gl g2 g3) (leafT 7) OD.out LO.out (some ⟨w9.heap.size + 1, 0, none⟩) 3 [nameL, name1, nameB] HR.out _ (HDU.out _ (by first | exact BU9 | exact below_then BU9 (below1 _ _) | exact below_then BU9 (below2 _ _ _))) (leaf_in _ 7) ⟨texts_in (t := 9) (by first | exact (heap_alloc_at _ _ _ rfl) | exact (heap_alloc_at _ _ _ (size_al _ _)) | exact row_then (heap_alloc_at _ _ _ rfl) c9 | exact row_then (heap_alloc_at _ _ _ (size_al _ _)) c9 | exact row_then (heap_alloc_at _ _ _ rfl) (below1 _ _) | exact row_then (heap_alloc_at _ _ _ (size_al _ _)) (below1 _ _) | exact row_then (row_then (heap_alloc_at _ _ _ rfl) (below1 _ _)) c9 | exact row_then (row_then (heap_alloc_at _ _ _ (size_al _ _)) (below1 _ _)) c9 | exact row_then (row_then (heap_alloc_at _ _ _ rfl) c9) (below1 _ _) | exact row_then (row_then (heap_alloc_at _ _ _ (size_al _ _)) c9) (below1 _ _) | fail), by simp, NOK.out⟩).mono ?_); rintro e w10 hst; obtain ⟨⟨k10, n10, s10, la10, lc10, l10, da10, dc10, d10⟩, rfl, hv10, ho10, b10⟩ := set_ok (by rw [ex_val]; exact ex_set) hst; clear hst; have BU10 : Below U.heap.size U w10 := (by first | exact below_then BU9 b10 | exact below_then (below_then BU9 (below1 _ _)) b10 | exact below_then (below_then BU9 (below2 _ _ _)) b10 | fail); (try (have RB : BoxR w10 (U.heap.size) (.mk k10 n10 s10 la10 lc10 l10 da10 dc10 d10) := (by first | exact box_end ho10 b10 (heap_alloc_at _ _ _ rfl) | exact box_end ho10 b10 (heap_alloc_at _ _ _ (size_al _ _)) | exact box_end ho10 b10 (row_then (heap_alloc_at _ _ _ rfl) (below1 _ _)) | exact box_end ho10 b10 (row_then (heap_alloc_at _ _ _ (size_al _ _)) (below1 _ _)) | exact box_end ho10 b10 (row_then (heap_alloc_at _ _ _ rfl) c9) | exact box_end ho10 b10 (row_then (heap_alloc_at _ _ _ (size_al _ _)) c9) | exact box_end ho10 b10 (row_then (row_then (heap_alloc_at _ _ _ rfl) (below1 _ _)) c9) | exact box_end ho10 b10 (row_then (row_then (heap_alloc_at _ _ _ (size_al _ _)) (below1 _ _)) c9) | exact box_end ho10 b10 (row_then (row_then (heap_alloc_at _ _ _ rfl) c9) (below1 _ _)) | exact box_end ho10 b10 (row_then (row_then (heap_alloc_at _ _ _ (size_al _ _)) c9) (below1 _ _)) | fail); have XB := row_cells RB.1; have YB := row_free RB.1)); (try (have RB : BoxR w10 (w9.heap.size) (.mk k10 n10 s10 la10 lc10 l10 da10 dc10 d10) := (by first | exact box_end ho10 b10 (heap_alloc_at _ _ _ rfl) | exact box_end ho10 b10 (heap_alloc_at _ _ _ (size_al _ _)) | exact box_end ho10 b10 (row_then (heap_alloc_at _ _ _ rfl) (below1 _ _)) | exact box_end ho10 b10 (row_then (heap_alloc_at _ _ _ (size_al _ _)) (below1 _ _)) | exact box_end ho10 b10 (row_then (heap_alloc_at _ _ _ rfl) c9) | exact box_end ho10 b10 (row_then (heap_alloc_at _ _ _ (size_al _ _)) c9) | exact box_end ho10 b10 (row_then (row_then (heap_alloc_at _ _ _ rfl) (below1 _ _)) c9) | exact box_end ho10 b10 (row_then (row_then (heap_alloc_at _ _ _ (size_al _ _)) (below1 _ _)) c9) | exact box_end ho10 b10 (row_then (row_then (heap_alloc_at _ _ _ rfl) c9) (below1 _ _)) | exact box_end ho10 b10 (row_then (row_then (heap_alloc_at _ _ _ (size_al _ _)) c9) (below1 _ _)) | fail); have XB := row_cells RB.1; have YB := row_free RB.1)); (try (have RB : BoxR w10 (U.heap.size + 1) (.mk k10 n10 s10 la10 lc10 l10 da10 dc10 d10) := (by first | exact box_end ho10 b10 (heap_alloc_at _ _ _ rfl) | exact box_end ho10 b10 (heap_alloc_at _ _ _ (size_al _ _)) | exact box_end ho10 b10 (row_then (heap_alloc_at _ _ _ rfl) (below1 _ _)) | exact box_end ho10 b10 (row_then (heap_alloc_at _ _ _ (size_al _ _)) (below1 _ _)) | exact box_end ho10 b10 (row_then (heap_alloc_at _ _ _ rfl) c9) | exact box_end ho10 b10 (row_then (heap_alloc_at _ _ _ (size_al _ _)) c9) | exact box_end ho10 b10 (row_then (row_then (heap_alloc_at _ _ _ rfl) (below1 _ _)) c9) | exact box_end ho10 b10 (row_then (row_then (heap_alloc_at _ _ _ (size_al _ _)) (below1 _ _)) c9) | exact box_end ho10 b10 (row_then (row_then (heap_alloc_at _ _ _ rfl) c9) (below1 _ _)) | exact box_end ho10 b10 (row_then (row_then (heap_alloc_at _ _ _ (size_al _ _)) c9) (below1 _ _)) | fail); have XB := row_cells RB.1; have YB := row_free RB.1)); (try (have RB : BoxR w10 (w9.heap.size + 1) (.mk k10 n10 s10 la10 lc10 l10 da10 dc10 d10) := (by first | exact box_end ho10 b10 (heap_alloc_at _ _ _ rfl) | exact box_end ho10 b10 (heap_alloc_at _ _ _ (size_al _ _)) | exact box_end ho10 b10 (row_then (heap_alloc_at _ _ _ rfl) (below1 _ _)) | exact box_end ho10 b10 (row_then (heap_alloc_at _ _ _ (size_al _ _)) (below1 _ _)) | exact box_end ho10 b10 (row_then (heap_alloc_at _ _ _ rfl) c9) | exact box_end ho10 b10 (row_then (heap_alloc_at _ _ _ (size_al _ _)) c9) | exact box_end ho10 b10 (row_then (row_then (heap_alloc_at _ _ _ rfl) (below1 _ _)) c9) | exact box_end ho10 b10 (row_then (row_then (heap_alloc_at _ _ _ (size_al _ _)) (below1 _ _)) c9) | exact box_end ho10 b10 (row_then (row_then (heap_alloc_at _ _ _ rfl) c9) (below1 _ _)) | exact box_end ho10 b10 (row_then (row_then (heap_alloc_at _ _ _ (size_al _ _)) c9) (below1 _ _)) | fail); have XB := row_cells RB.1; have YB := row_free RB.1)); refine ⟨_, rfl, ?_⟩; dsimp only [T.arg, T.cells])
    | fail
    | fail)
    all_goals
      change SetDone _ _ _ _ _ _ _ _
      unfold SetDone
      simp only [List.getElem_toArray, List.getElem_cons_succ, List.getElem_cons_zero, Act.put, List.setIfInBounds_toArray, List.set_cons_succ, List.set_cons_zero]
      refine ⟨_, _, _, _, _, _, _, .mk k10 n10 s10 la10 lc10 l10 da10 dc10 d10, rfl, ?_⟩
      first | (have h := tail_set BWU.out BU10 RX.out CRU.out RB (by have := BU9.size; omega) hv10; exact h) | (have h := tail_new BWU.out BU10 RX.out CRU.out ho10 hv10; exact h)
  · rintro a F ⟨bx, v28, v29, v30, v31, v32, v33, t10, rfl, hB, hrow, hin, hok, hset, hxb, hcr⟩
    refine ‹∀ (a : Act) (w : World), _ → _› _ _ ?_
    simp only [Act.put, List.setIfInBounds_toArray, List.set_cons_succ, List.set_cons_zero]
    have HB := Lib.hid hB
    have HIN := Lib.hid hin
    have HXB := Lib.hid hxb
    have HCR := Lib.hid hcr
    have HS := Lib.hid (ex_at2 hset)
    have HOK := Lib.hid hok
    obtain ⟨k10, n10, s10, la10, lc10, l10, da10, dc10, d10⟩ := t10
    have XR := row_cells hrow
    dsimp only [T.cells] at XR
    clear hB hin hxb hcr hset hok RX RU HDU0 BWU CRU XU HDU lU lV BU R8 X8 HD8 CR8 B8 hgr8
    go_wp2_with fail
    refine (at_any (.mk k10 n10 s10 la10 lc10 l10 da10 dc10 d10) HOK.out (some ⟨F.heap.size, 0, none⟩) 3 [nameL, name1, nameB] _ (HIN.out.then_ (below1 _ _)) ⟨texts_in (heap_alloc_new _ _), by simp, NOK.out⟩).mono ?_
    rintro e w11 (⟨h11, -⟩ | ⟨t11, h11, rfl, -, b11⟩)
    · rw [HS.out] at h11
      cases h11
    rw [HS.out] at h11
    obtain ⟨la11, lc11, da11, dc11, rfl⟩ := leaf_of h11
    dsimp only [T.arg, T.cells, List.length_nil]
    have BF := below_then (below1 F _) b11
    have BY := below1 w11 (.cells #[.int .i64 3, .int .i64 7, .string ⟨#[]⟩, .slice la11 0 lc11, .slice da11 0 dc11] 31)
    have RY := Lib.hid (heap_alloc_new w11 (.cells #[.int .i64 3, .int .i64 7, .string ⟨#[]⟩, .slice la11 0 lc11, .slice da11 0 dc11] 31))
    have B11 := Lib.hid (below_then BF BY)
    clear BF b11 h11 XR BY hrow
    go_wp2_with fail
    obtain ⟨TB, m, hm⟩ := (HT.out.then_ HB.out).then_ B11.out
    refine (split_any ⟨#[97, 46, 98]⟩ (by decide) _ TB m hm).mono ?_
    rintro e w12 ⟨b12, ⟨hno, -⟩ | ⟨-, g12, c12, -, rfl, -, -, -⟩⟩
    · rw [ex_splitOk] at hno
      cases hno
    rw [ex_split]
    have BZ := Lib.hid (below_then B11.out b12)
    have XX := row_cells (row_then HXB.out BZ.out)
    have XY := row_cells (row_then RY.out b12)
    have CC := (BZ.out.cell (cell_lt HCR.out)).trans HCR.out
    have BE := Lib.hid (below_then HB.out BZ.out)
    clear hm TB b12 BZ B11 RY HXB HCR HB
    simp only [List.length_cons, List.length_nil, Nat.zero_add, Nat.reduceAdd]
    go_wp2_with fail
    go_ret
    exact ⟨rfl, BE.out⟩
#print axioms awake04_any
end Go.Proofs.YtkklnfihjikilaaDoor
