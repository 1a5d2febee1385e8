/- The contract of replaced: no statement is proved here. -/
import Derived.Test.YtkklnfihjikilaaDoorPathDo
import Derived.Test.YtkklnfihjikilaaDoorPathOut
import Derived.Test.YtkklnfihjikilaaDoorPut
namespace Go.Proofs.YtkklnfihjikilaaDoor
open Go.RowKit
set_option maxRecDepth 100000

def setD (d : List (ByteArray × V)) (j : Nat) (y : V) : List (ByteArray × V) := match d[j]? with
  | none => d
  | some f => d.set j (f.1, y)
def replV : V → Nat → V → V
  | .mk k n s l d, j, y => if k = 5 then .mk k n s l (setD d j y) else .mk k n s (l.set j y) d
/-- An answer that shares what it can; it lies in new blocks, and where the arguments lie. -/
def MakesT (ins : List T) (v : V) (w : World) (e : Ending) (w' : World) : Prop := ∃ t' : T, e = .returned t'.arg ∧ t'.val = v ∧ t'.In w' ∧ t'.ok ∧ Below w.heap.size w w' ∧ ∀ B0 B1 : Nat, B1 ≤ w.heap.size → (∀ t ∈ ins, t.Out B0 B1) → t'.Out B0 B1
theorem row_on {w w' : World} {B : Nat} {e : TypeId} {c n : Nat} {v : Value} {xs : List Value} (h : w.ownsRow B e c v n xs) (hk : ∀ b, v.ownBlock = some b → w'.heap[b]? = w.heap[b]?) : w'.ownsRow B e c v n xs := by
  have h1 : Owns w B [⟨e, c, v, n, xs⟩] := fun r hr => by rw [List.mem_singleton.1 hr]; exact h
  refine (h1.keep (fun b hb => hk b ?_)).head
  simpa [blocksOf] using hb
theorem rep_inD {w : World} {B : Nat} {a : Option Addr} {c : Nat} {ts : List (ByteArray × T)} (h : w.ownsRow B 52 6 (.slice a ts.length c) ts.length (ts.flatMap fcells)) (hk : ∀ x ∈ ts, x.2.In w) : InD w a ts := by
  intro p hp
  obtain ⟨i, x, hx, hp⟩ := (T.mem_placesD _ _ _ _).1 hp
  rcases hp with hp | hp
  · obtain ⟨j, c', hc, rfl⟩ := mem_laid.1 hp
    have hjl := lt_of_get hc
    rw [fcells_len] at hjl
    have hg : (ts.flatMap fcells)[i * 6 + j]? = some c' := (flatMap_getD fcells 6 fcells_len ts i x hx j hjl).trans hc
    have hr2 := h
    obtain ⟨h1, h2⟩ := h
    rcases h2 with ⟨hv, h2⟩ | ⟨g, cap, cur, hv, hb, hg', hrest⟩
    · have := lt_of_get hx; omega
    · injection hv with hv
      subst hv
      have := hr2.cells (g := g) rfl (i * 6 + j) c' hg
      simp only [Nat.zero_add, at_]
      rw [← this]
      unfold Addr.add
      split
      · rename_i h0; rw [h0]
      · simp
  · exact hk x (List.mem_of_getElem? hx) p hp
theorem rep_inL {w : World} {B : Nat} {a : Option Addr} {c : Nat} {ts : List T} (h : w.ownsRow B 31 5 (.slice a ts.length c) ts.length (ts.flatMap T.cells)) (hk : ∀ x ∈ ts, x.In w) : InL w a ts := by
  intro p hp
  obtain ⟨i, x, hx, hp⟩ := (T.mem_placesL _ _ _ _).1 hp
  rcases hp with hp | hp
  · obtain ⟨j, c', hc, rfl⟩ := mem_laid.1 hp
    have hjl := lt_of_get hc
    rw [cells_len] at hjl
    have hg : (ts.flatMap T.cells)[i * 5 + j]? = some c' := (flatMap_get T.cells 5 cells_len ts i x hx j hjl).trans hc
    have hr2 := h
    obtain ⟨h1, h2⟩ := h
    rcases h2 with ⟨hv, h2⟩ | ⟨g, cap, cur, hv, hb, hg', hrest⟩
    · have := lt_of_get hx; omega
    · injection hv with hv
      subst hv
      have := hr2.cells (g := g) rfl (i * 5 + j) c' hg
      simp only [Nat.zero_add, at_]
      rw [← this]
      unfold Addr.add
      split
      · rename_i h0; rw [h0]
      · simp
  · exact hk x (List.mem_of_getElem? hx) p hp
theorem inL_kid {w : World} {a : Option Addr} {l : List T} (h : InL w a l) {i : Nat} {x : T} (hi : l[i]? = some x) : x.In w := (h.elem hi).choose_spec.choose_spec.2.2
theorem inD_kid {w : World} {a : Option Addr} {l : List (ByteArray × T)} (h : InD w a l) {i : Nat} {x : ByteArray × T} (hi : l[i]? = some x) : x.2.In w := (h.elem hi).choose_spec.choose_spec.2.2
theorem cut_at {α : Type} {l : List α} {j : Nat} {y : α} (h : l[j]? = some y) : l = l.take j ++ y :: l.drop (j + 1) := by
  obtain ⟨hj, he⟩ := List.getElem?_eq_some_iff.1 h
  subst he
  rw [← List.drop_eq_getElem_cons hj, List.take_append_drop]
theorem set_at {α : Type} {l : List α} {j : Nat} {y : α} (x : α) (h : l[j]? = some y) : l.set j x = l.take j ++ x :: l.drop (j + 1) := by
  rw [List.set_eq_take_append_cons_drop, if_pos (List.getElem?_eq_some_iff.1 h).1]
theorem mem_set {α : Type} {l : List α} {j : Nat} {x z : α} (h : z ∈ l.set j x) : z = x ∨ z ∈ l := (List.mem_or_eq_of_mem_set h).symm
theorem rep_rowD {w : World} {B g cap j : Nat} {d : List (ByteArray × T)} {f : ByteArray} {x y : T} (h : w.ownsRow B 52 6 (.slice (some ⟨g, 0, none⟩) d.length cap) d.length (d.flatMap fcells)) (hj : d[j]? = some (f, y)) :
    (putCells w g (j * 6 + 1) x.cells).ownsRow B 52 6 (.slice (some ⟨g, 0, none⟩) (d.set j (f, x)).length cap) (d.set j (f, x)).length ((d.set j (f, x)).flatMap fcells) := by
  have e1 : d.flatMap fcells = ((d.take j).flatMap fcells ++ [.string f]) ++ y.cells ++ (d.drop (j + 1)).flatMap fcells := by
    conv => lhs; rw [cut_at hj]
    simp [List.flatMap_append, fcells]
  have e2 : (d.set j (f, x)).flatMap fcells = ((d.take j).flatMap fcells ++ [.string f]) ++ x.cells ++ (d.drop (j + 1)).flatMap fcells := by
    rw [set_at _ hj]
    simp [List.flatMap_append, fcells]
  have hjl := lt_of_get hj
  have e3 : ((d.take j).flatMap fcells ++ [Value.string f]).length = j * 6 + 1 := by
    rw [List.length_append, flat_lenD, List.length_take, Nat.min_eq_left (by omega)]
    rfl
  rw [e1] at h
  rw [e2, List.length_set]
  have := own_mid (us := x.cells) h (by rw [cells_len, cells_len])
  rw [e3] at this
  exact this
theorem rep_rowL {w : World} {B g cap j : Nat} {l : List T} {x y : T} (h : w.ownsRow B 31 5 (.slice (some ⟨g, 0, none⟩) l.length cap) l.length (l.flatMap T.cells)) (hj : l[j]? = some y) :
    (putCells w g (j * 5) x.cells).ownsRow B 31 5 (.slice (some ⟨g, 0, none⟩) (l.set j x).length cap) (l.set j x).length ((l.set j x).flatMap T.cells) := by
  have e1 : l.flatMap T.cells = (l.take j).flatMap T.cells ++ y.cells ++ (l.drop (j + 1)).flatMap T.cells := by
    conv => lhs; rw [cut_at hj]
    simp [List.flatMap_append]
  have e2 : (l.set j x).flatMap T.cells = (l.take j).flatMap T.cells ++ x.cells ++ (l.drop (j + 1)).flatMap T.cells := by
    rw [set_at _ hj]
    simp [List.flatMap_append]
  have hjl := lt_of_get hj
  have e3 : ((l.take j).flatMap T.cells).length = j * 5 := by
    rw [flat_len, List.length_take, Nat.min_eq_left (by omega)]
  rw [e1] at h
  rw [e2, List.length_set]
  have := own_mid (us := x.cells) h (by rw [cells_len, cells_len])
  rw [e3] at this
  exact this
theorem own_fits {w : World} {B : Nat} {e : TypeId} {c g n cap : Nat} {xs : List Value} (h : w.ownsRow B e c (.slice (some ⟨g, 0, none⟩) n cap) n xs) : n ≤ cap := by
  obtain ⟨_, h2⟩ := h
  rcases h2 with ⟨hv, _⟩ | ⟨g', cap', cur, hv, hb, hg, hkc, hm, _⟩
  · cases hv
  · injection hv with _ _ e3; omega
theorem rep_endD {w F : World} {n : Int} {s : ByteArray} {la da : Option Addr} {lc dc g cap B j : Nat} {l : List T} {d : List (ByteArray × T)} {f : ByteArray} {x y : T} (hin : T.In w (.mk 5 n s la lc l da dc d)) (ok : T.ok (.mk 5 n s la lc l da dc d)) (hx : x.In w) (okx : x.ok) (hb : Below w.heap.size w F) (hwB : w.heap.size ≤ B)
    (hj : d[j]? = some (f, y)) (hrow : F.ownsRow B 52 6 (.slice (some ⟨g, 0, none⟩) (d.set j (f, x)).length cap) (d.set j (f, x)).length ((d.set j (f, x)).flatMap fcells)) : MakesT [.mk 5 n s la lc l da dc d, x] (replV (T.val (.mk 5 n s la lc l da dc d)) j x.val) w (.returned (.agg #[.int .i64 5, .int .i64 n, .string s, .slice la l.length lc, .slice (some ⟨g, 0, none⟩) d.length cap])) F := by
  refine ⟨.mk 5 n s la lc l (some ⟨g, 0, none⟩) cap (d.set j (f, x)), by simp only [T.arg, T.cells, List.length_set], ?_, ?_, ?_, hb, fun B0 B1 h1 ho => T.Out.of_parts (ho (.mk 5 n s la lc l da dc d) (by simp)).parts.1 (outD_new (by have := (hrow.lt g rfl).1; omega) fun z hz => ?_)⟩
  · rw [T.val_mk, T.val_mk, replV, if_pos rfl, setD, List.getElem?_map, hj]
    simp only [Option.map_some, List.map_set]
  · refine T.In.of_parts (hin.parts.1.then_ hb) (rep_inD hrow fun z hz => ?_)
    rcases mem_set hz with rfl | hz
    · exact hx.then_ hb
    · obtain ⟨i, hi⟩ := List.mem_iff_getElem?.1 hz
      exact (inD_kid hin.parts.2 hi).then_ hb
  · simp only [T.ok, T.okL_iff, T.okD_iff] at ok ⊢
    obtain ⟨q1, q2, q3, q4, q5, q6, q7, q8, q9, q10, q11⟩ := ok
    have hc := cap_of hrow
    have hr := own_fits hrow
    refine ⟨q1, q2, q3, q4, q5, q6, ⟨hr, hc⟩, by rw [List.length_set]; exact q8, by simp, q10, fun z hz => ?_⟩
    rcases mem_set hz with rfl | hz
    · exact ⟨(q11 _ (List.mem_of_getElem? hj)).1, okx⟩
    · exact q11 z hz
  · rcases mem_set hz with rfl | hz
    · exact ho x (by simp)
    · obtain ⟨i, hi⟩ := List.mem_iff_getElem?.1 hz
      exact (ho (.mk 5 n s la lc l da dc d) (by simp)).parts.2.kid hi
theorem rep_endL {w F : World} {k n : Int} {s : ByteArray} {la da : Option Addr} {lc dc g cap B j : Nat} {l : List T} {d : List (ByteArray × T)} {x : T} (hk : k ≠ 5) (hin : T.In w (.mk k n s la lc l da dc d)) (ok : T.ok (.mk k n s la lc l da dc d)) (hx : x.In w) (okx : x.ok) (hb : Below w.heap.size w F) (hwB : w.heap.size ≤ B)
    (hrow : F.ownsRow B 31 5 (.slice (some ⟨g, 0, none⟩) (l.set j x).length cap) (l.set j x).length ((l.set j x).flatMap T.cells)) : MakesT [.mk k n s la lc l da dc d, x] (replV (T.val (.mk k n s la lc l da dc d)) j x.val) w (.returned (.agg #[.int .i64 k, .int .i64 n, .string s, .slice (some ⟨g, 0, none⟩) l.length cap, .slice da d.length dc])) F := by
  refine ⟨.mk k n s (some ⟨g, 0, none⟩) cap (l.set j x) da dc d, by simp only [T.arg, T.cells, List.length_set], ?_, ?_, ?_, hb, fun B0 B1 h1 ho => T.Out.of_parts (outL_new (by have := (hrow.lt g rfl).1; omega) fun z hz => ?_) (ho (.mk k n s la lc l da dc d) (by simp)).parts.2⟩
  · rw [T.val_mk, T.val_mk, replV, if_neg hk]
    simp only [List.map_set]
  · refine T.In.of_parts (rep_inL hrow fun z hz => ?_) (hin.parts.2.then_ hb)
    rcases mem_set hz with rfl | hz
    · exact hx.then_ hb
    · obtain ⟨i, hi⟩ := List.mem_iff_getElem?.1 hz
      exact (inL_kid hin.parts.1 hi).then_ hb
  · simp only [T.ok, T.okL_iff, T.okD_iff] at ok ⊢
    obtain ⟨q1, q2, q3, q4, q5, q6, q7, q8, q9, q10, q11⟩ := ok
    have hc := cap_of hrow
    have hr := own_fits hrow
    refine ⟨q1, q2, q3, ⟨hr, hc⟩, by rw [List.length_set]; exact q5, by simp, q7, q8, q9, fun z hz => ?_, q11⟩
    rcases mem_set hz with rfl | hz
    · exact okx
    · exact q10 z hz
  · rcases mem_set hz with rfl | hz
    · exact ho _ (by simp)
    · obtain ⟨i, hi⟩ := List.mem_iff_getElem?.1 hz
      exact (ho (.mk k n s la lc l da dc d) (by simp)).parts.1.kid hi

theorem rep_worldD {w W3 w1 : World} {g cap j : Nat} {d : List (ByteArray × T)} {f : ByteArray} {x y : T} (sl v0 v1 v2 v3 v4 : Value) (hrow : w1.ownsRow W3.heap.size 52 6 (.slice (some ⟨g, 0, none⟩) d.length cap) d.length (d.flatMap fcells)) (hj : d[j]? = some (f, y)) (h3 : Below w.heap.size w W3) (hb : Below W3.heap.size W3 w1) (hs : W3.heap.size = w.heap.size + 1 + 1 + 1) :
    (putCells (putCells (w1.setCell ⟨w.heap.size, 4, none⟩ sl) g (j * 6 + 1) x.cells) (w.heap.size + 1 + 1) 0 [v0, v1, v2, v3, v4]).ownsRow W3.heap.size 52 6 (.slice (some ⟨g, 0, none⟩) (d.set j (f, x)).length cap) (d.set j (f, x)).length ((d.set j (f, x)).flatMap fcells) ∧
      Below w.heap.size w (putCells (putCells (w1.setCell ⟨w.heap.size, 4, none⟩ sl) g (j * 6 + 1) x.cells) (w.heap.size + 1 + 1) 0 [v0, v1, v2, v3, v4]) := by
  have hgl := hrow.lt g rfl
  have o1 : Only [w.heap.size] w1 (w1.setCell ⟨w.heap.size, 4, none⟩ sl) := (Only.refl _ _).setCell (p := ⟨w.heap.size, 4, none⟩) (.inl (by simp)) _
  have h1 := row_on (w' := w1.setCell ⟨w.heap.size, 4, none⟩ sl) hrow (fun b hb' => by
    simp [Value.ownBlock] at hb'
    subst hb'
    exact o1.block g (by omega) (by simp; omega))
  have h2 := rep_rowD (x := x) h1 hj
  refine ⟨row_on h2 (fun b hb' => ?_), ?_⟩
  · simp [Value.ownBlock] at hb'
    subst hb'
    exact put_other _ _ _ _ _ (by omega)
  · refine below_put ?_ (by omega) _ _
    refine below_put ?_ (by omega) _ _
    exact (below_then h3 hb).setCell (p := ⟨w.heap.size, 4, none⟩) (Nat.le_refl _) _
theorem rep_worldL {w W3 w1 : World} {g cap j : Nat} {d : List T} {x y : T} (sl v0 v1 v2 v3 v4 : Value) (hrow : w1.ownsRow W3.heap.size 31 5 (.slice (some ⟨g, 0, none⟩) d.length cap) d.length (d.flatMap T.cells)) (hj : d[j]? = some y) (h3 : Below w.heap.size w W3) (hb : Below W3.heap.size W3 w1) (hs : W3.heap.size = w.heap.size + 1 + 1 + 1) :
    (putCells (putCells (w1.setCell ⟨w.heap.size, 3, none⟩ sl) g (j * 5) x.cells) (w.heap.size + 1 + 1) 0 [v0, v1, v2, v3, v4]).ownsRow W3.heap.size 31 5 (.slice (some ⟨g, 0, none⟩) (d.set j x).length cap) (d.set j x).length ((d.set j x).flatMap T.cells) ∧
      Below w.heap.size w (putCells (putCells (w1.setCell ⟨w.heap.size, 3, none⟩ sl) g (j * 5) x.cells) (w.heap.size + 1 + 1) 0 [v0, v1, v2, v3, v4]) := by
  have hgl := hrow.lt g rfl
  have o1 : Only [w.heap.size] w1 (w1.setCell ⟨w.heap.size, 3, none⟩ sl) := (Only.refl _ _).setCell (p := ⟨w.heap.size, 3, none⟩) (.inl (by simp)) _
  have h1 := row_on (w' := w1.setCell ⟨w.heap.size, 3, none⟩ sl) hrow (fun b hb' => by
    simp [Value.ownBlock] at hb'
    subst hb'
    exact o1.block g (by omega) (by simp; omega))
  have h2 := rep_rowL (x := x) h1 hj
  refine ⟨row_on h2 (fun b hb' => ?_), ?_⟩
  · simp [Value.ownBlock] at hb'
    subst hb'
    exact put_other _ _ _ _ _ (by omega)
  · refine below_put ?_ (by omega) _ _
    refine below_put ?_ (by omega) _ _
    exact (below_then h3 hb).setCell (p := ⟨w.heap.size, 3, none⟩) (Nat.le_refl _) _
theorem rep_q0 (w : World) (a b c : Obj) (h : ∃ cs t f, a = .cells cs t f) : (((w.alloc a).alloc b).alloc c).heap[w.heap.size]? = some a := by
  obtain ⟨cs, t, f, rfl⟩ := h
  exact row_then (heap_alloc_new w _) (below2 _ b c)
theorem rep_q1 (w : World) (a b c : Obj) (h : ∃ cs t f, b = .cells cs t f) : (((w.alloc a).alloc b).alloc c).heap[w.heap.size + 1]? = some b := by
  obtain ⟨cs, t, f, rfl⟩ := h
  have := row_then (heap_alloc_new (w.alloc a) (.cells cs t f)) (below1 _ c)
  simpa using this
theorem rep_q2 (w : World) (a b c : Obj) : (((w.alloc a).alloc b).alloc c).heap[w.heap.size + 1 + 1]? = some c := by
  have := heap_alloc_new ((w.alloc a).alloc b) c
  simpa using this
set_option maxHeartbeats 1000000 in
theorem replaced_any (t x y : T) (ok : t.ok) (okx : x.ok) (j : Nat) (hk : kidT t j = some y) (w : World) (hin : t.In w) (hx : x.In w) : Calls Tryd.prog 51 #[t.arg, .int .i64 j, x.arg] w (MakesT [t, x] (replV t.val j x.val) w) := by
  have HI := Lib.hid hin
  have HX := Lib.hid hx
  have HO := Lib.hid ok
  have HOX := Lib.hid okx
  clear hin hx ok okx
  obtain ⟨kt, nt, st, lat, lct, lt, dat, dct, dt⟩ := t
  obtain ⟨kx, nx, sx, lax, lcx, lx, dax, dcx, dx⟩ := x
  show Calls _ _ #[.agg #[.int .i64 kt, .int .i64 nt, .string st, .slice lat lt.length lct, .slice dat dt.length dct], .int .i64 j, .agg #[.int .i64 kx, .int .i64 nx, .string sx, .slice lax lx.length lcx, .slice dax dx.length dcx]] _ _
  obtain ⟨-, -, -, -, hs, hl1, hl2, hd1, hd2, okl, okd⟩ := HO.out.parts
  have q0 := rep_q0 w (.cells #[.int .i64 kt, .int .i64 nt, .string st, .slice lat lt.length lct, .slice dat dt.length dct] 31) (.cells #[.int .i64 kx, .int .i64 nx, .string sx, .slice lax lx.length lcx, .slice dax dx.length dcx] 31) zeroObj ⟨_, _, _, rfl⟩
  have q1 := rep_q1 w (.cells #[.int .i64 kt, .int .i64 nt, .string st, .slice lat lt.length lct, .slice dat dt.length dct] 31) (.cells #[.int .i64 kx, .int .i64 nx, .string sx, .slice lax lx.length lcx, .slice dax dx.length dcx] 31) zeroObj ⟨_, _, _, rfl⟩
  have q2 := rep_q2 w (.cells #[.int .i64 kt, .int .i64 nt, .string st, .slice lat lt.length lct, .slice dat dt.length dct] 31) (.cells #[.int .i64 kx, .int .i64 nx, .string sx, .slice lax lx.length lcx, .slice dax dx.length dcx] 31) zeroObj
  have q3 := below3 w (.cells #[.int .i64 kt, .int .i64 nt, .string st, .slice lat lt.length lct, .slice dat dt.length dct] 31) (.cells #[.int .i64 kx, .int .i64 nx, .string sx, .slice lax lx.length lcx, .slice dax dx.length dcx] 31) zeroObj
  unfold zeroObj at q0 q1 q2 q3
  have Q := Lib.hid (And.intro q0 (And.intro q1 (And.intro q2 q3)))
  clear q0 q1 q2 q3
  by_cases k5 : kt = 5
  · subst k5
    rw [kidT, if_pos rfl] at hk
    obtain ⟨⟨f, y'⟩, hj, rfl⟩ := Option.map_eq_some_iff.1 hk
    obtain ⟨b, o, rfl, -, -⟩ := HI.out.parts.2.elem hj
    have hjl := lt_of_get hj
    have HJ := Lib.hid hj
    have HC := Lib.hid (sclonef_any b o dct dt _ (HI.out.parts.2.then_ Q.out.2.2.2) (by omega) (by omega))
    clear hj hk
    go_enter Tryd.func51, Tryd.ntmps51
    go_wp2_with (go_at_call 74; go_loud (refine HC.out.mono ?_; rintro e w1 ⟨g, cap, rfl, hrow, hb⟩; have r0 := row_then Q.out.1 hb; have r1 := row_then Q.out.2.1 hb; have r2 := row_then Q.out.2.2.1 hb; have hgl := hrow.lt g rfl; obtain ⟨v0, v1, v2, v3, v4, v5, c0, c1, c2, c3, c4, c5, f0, f1, f2, f3, f4, f5⟩ := own_room6 hrow (i := j) (Nat.lt_of_lt_of_le hjl (own_fits hrow)); have HR := Lib.hid hrow; have HB := Lib.hid hb; clear hrow hb; have x0 := row_cells r0; have x1 := row_cells r1; have x2 := row_cells r2; have y0 := row_free r0; have y2 := row_free r2; have n0 : g ≠ w.heap.size := (by simp at hgl; omega); have n1 : g ≠ w.heap.size + 1 := (by simp at hgl; omega); have n2 : g ≠ w.heap.size + 1 + 1 := (by simp at hgl; omega)))
    refine bodyPost_ret (v := .agg #[.int .i64 5, .int .i64 nt, .string st, .slice lat lt.length lct, .slice (some ⟨g, 0, none⟩) dt.length cap]) (by simp [results, Tryd.results51, go_sem, x2]) rfl ?_
    obtain ⟨hF, hbF⟩ := rep_worldD (x := .mk kx nx sx lax lcx lx dax dcx dx) (.slice (some ⟨g, 0, none⟩) dt.length cap) (.int .i64 5) (.int .i64 nt) (.string st) (.slice lat lt.length lct) (.slice (some ⟨g, 0, none⟩) dt.length cap) HR.out HJ.out Q.out.2.2.2 HB.out (by simp)
    simp only [T.cells, put5] at hF hbF
    exact rep_endD HI.out HO.out HX.out HOX.out hbF (by simp; omega) HJ.out hF
  · have k5b : (kt == 5) = false := by simpa using k5
    rw [kidT, if_neg k5] at hk
    obtain ⟨b, o, rfl, -, -⟩ := HI.out.parts.1.elem hk
    have hjl := lt_of_get hk
    have HJ := Lib.hid hk
    have HC := Lib.hid (sclone_any b o lct lt _ (HI.out.parts.1.then_ Q.out.2.2.2) (by omega) (by omega))
    clear hk
    go_enter Tryd.func51, Tryd.ntmps51
    go_wp2_with (go_at_call 75; go_loud (refine HC.out.mono ?_; rintro e w1 ⟨g, cap, rfl, hrow, hb⟩; have r0 := row_then Q.out.1 hb; have r1 := row_then Q.out.2.1 hb; have r2 := row_then Q.out.2.2.1 hb; have hgl := hrow.lt g rfl; obtain ⟨v0, v1, v2, v3, v4, c0, c1, c2, c3, c4, f0, f1, f2, f3, f4⟩ := own_room5 hrow (i := j) (Nat.lt_of_lt_of_le hjl (own_fits hrow)); have HR := Lib.hid hrow; have HB := Lib.hid hb; clear hrow hb; have x0 := row_cells r0; have x1 := row_cells r1; have x2 := row_cells r2; have y0 := row_free r0; have y2 := row_free r2; have n0 : g ≠ w.heap.size := (by simp at hgl; omega); have n1 : g ≠ w.heap.size + 1 := (by simp at hgl; omega); have n2 : g ≠ w.heap.size + 1 + 1 := (by simp at hgl; omega)))
    refine bodyPost_ret (v := .agg #[.int .i64 kt, .int .i64 nt, .string st, .slice (some ⟨g, 0, none⟩) lt.length cap, .slice dat dt.length dct]) (by simp [results, Tryd.results51, go_sem, x2]) rfl ?_
    obtain ⟨hF, hbF⟩ := rep_worldL (x := .mk kx nx sx lax lcx lx dax dcx dx) (.slice (some ⟨g, 0, none⟩) lt.length cap) (.int .i64 kt) (.int .i64 nt) (.string st) (.slice (some ⟨g, 0, none⟩) lt.length cap) (.slice dat dt.length dct) HR.out HJ.out Q.out.2.2.2 HB.out (by simp)
    simp only [T.cells, put5] at hF hbF
    exact rep_endL k5 HI.out HO.out HX.out HOX.out hbF (by simp; omega) hF
#print axioms replaced_any
end Go.Proofs.YtkklnfihjikilaaDoor
