/- The contract of the reader's value over those of document and list. No statement is proved here. -/
import Derived.Test.YtjfgmcmnpekahaaDoorBCurW
namespace Go.Proofs.YtjfgmcmnpekahaaDoor
open Go.RowKit
set_option maxRecDepth 100000

theorem put5row {w : World} {g : Nat} {t : TypeId} {a0 a1 a2 a3 a4 : Value} (h : w.heap[g]? = some (.cells #[a0, a1, a2, a3, a4] t (0, 0))) (b0 b1 b2 b3 b4 : Value) :
    (((((w.setCell ⟨g, 0, none⟩ b0).setCell ⟨g, 1, none⟩ b1).setCell ⟨g, 2, none⟩ b2).setCell ⟨g, 3, none⟩ b3).setCell ⟨g, 4, none⟩ b4).heap[g]? = some (.cells #[b0, b1, b2, b3, b4] t (0, 0)) := by
  have h1 := heap_setCell_same _ g 0 _ t b0 h
  have h2 := heap_setCell_same _ g 1 _ t b1 h1
  have h3 := heap_setCell_same _ g 2 _ t b2 h2
  have h4 := heap_setCell_same _ g 3 _ t b3 h3
  have h5 := heap_setCell_same _ g 4 _ t b4 h4
  exact h5
theorem put5only (w : World) (g : Nat) (b0 b1 b2 b3 b4 : Value) : Only [g] w (((((w.setCell ⟨g, 0, none⟩ b0).setCell ⟨g, 1, none⟩ b1).setCell ⟨g, 2, none⟩ b2).setCell ⟨g, 3, none⟩ b3).setCell ⟨g, 4, none⟩ b4) :=
  (((((Only.refl [g] w).setCell (p := ⟨g, 0, none⟩) (.inl (by simp)) b0).setCell (p := ⟨g, 1, none⟩) (.inl (by simp)) b1).setCell (p := ⟨g, 2, none⟩) (.inl (by simp)) b2).setCell (p := ⟨g, 3, none⟩) (.inl (by simp)) b3).setCell (p := ⟨g, 4, none⟩) (.inl (by simp)) b4
theorem subS {S S' : List Nat} {a b : World} (h : Only S a b) (hs : ∀ k ∈ S, k ∈ S') : Only S' a b := h.mono fun k hk => .inl (hs k hk)
theorem leaf_own {k n : Int} {s : ByteArray} (w : World) (B : Nat) (hk : okInt k) (hn : okInt n) (hs : okLen s.size) : (T.mk k n s none 0 [] none 0 []).Own w B := by
  refine ⟨by unfold okLen okInt at *; simp [T.ok, T.okL, T.okD, okInt, okLen, okFar]; omega, fun r hr => ?_, by simp [T.rows, T.rowsL, T.rowsD, blocksOf, Value.ownBlock]⟩
  simp [T.rows, T.rowsL, T.rowsD] at hr
  rcases hr with rfl | rfl <;> exact World.ownsRow_nil _ _ _ _
/-- The reader outlives what is written into blocks that came behind it. -/
theorem Cur.past {w0 w w' : World} {g : Nat} {K : Byt} {i r j s : Nat} {dp dp' : Int} {S : List Nat} (h0 : Cur w0 g K i r dp) (h : Cur w g K j s dp') (ho : Only S w w') (hS : ∀ x ∈ S, w0.heap.size ≤ x) : Cur w' g K j s dp' := by
  have hg := lt_of_block h0.row
  refine ⟨keep_row ho h.row (fun hx => by have := hS _ hx; omega), fun k x hx => ?_, h.low, h.le, h.room, h.cap, h.far, h.byte⟩
  obtain ⟨b, o, e, hc⟩ := h.inb k x hx
  obtain ⟨b', o', e', hc'⟩ := h0.inb k x hx
  rw [e] at e'
  injection e' with e'
  injection e' with e1 e2
  subst e1 e2
  refine ⟨b, o, e, (World.cell?_of_block (ho.block b (cell_lt hc) fun hx => ?_)).trans hc⟩
  have := hS _ hx
  have := cell_lt hc'
  simp at this
  omega
/-- What reading a value yields, or at which fault it stops. -/
def ReadsT (res : Res V) (g : Nat) (K : Byt) (i r : Nat) (dp : Int) (w : World) (e : Ending) (w' : World) : Prop :=
  Only [g] w w' ∧ match res with
  | .bad c q => e = faultE c q
  | .ok v m => ∃ t : T, e = .returned t.arg ∧ t.val = v ∧ t.Own w' w.heap.size ∧ Cur w' g K (i + m) r dp
theorem ReadsT.bad {res : Res V} {g : Nat} {K : Byt} {i r : Nat} {dp : Int} {w w' : World} {c q : Int} (h : res = .bad c q) (ho : Only [g] w w') : ReadsT res g K i r dp w (faultE c q) w' := by subst h; exact ⟨ho, rfl⟩
theorem ReadsT.ok {res : Res V} {g : Nat} {K : Byt} {i r : Nat} {dp : Int} {w w' : World} {v : V} {m : Nat} {t : T} (h : res = .ok v m) (hv : t.val = v) (ht : t.Own w' w.heap.size) (hc : Cur w' g K (i + m) r dp) (ho : Only [g] w w') : ReadsT res g K i r dp w (.returned t.arg) w' := by subst h; exact ⟨ho, t, rfl, hv, ht, hc⟩
def docR (n : Nat) (list : Bool) (deep : Int) (R : List Int) (p : Int) : Res V :=
  match docF n list deep R p with
  | .bad c q => .bad c q
  | .ok d m => .ok (if list then .mk 6 0 ⟨#[]⟩ (d.map (·.2)) [] else .mk 5 0 ⟨#[]⟩ [] d) m
def DocAt (n : Nat) : Prop := ∀ (w : World) (g : Nat) (K : Byt) (i r : Nat) (dp : Int) (B : Nat), Cur w g K i r dp → 0 ≤ dp → dp ≤ 20 → Env2 w B → B ≤ g → r - i + 2 ≤ n → Calls Tryd.prog 46 #[.pointer (some ⟨g, 0, none⟩)] w (ReadsT (docR n false (dp + 1) (K.rest i r) i) g K i r dp w)
def ListAt (n : Nat) : Prop := ∀ (w : World) (g : Nat) (K : Byt) (i r : Nat) (dp : Int) (B : Nat), Cur w g K i r dp → 0 ≤ dp → dp ≤ 20 → Env2 w B → B ≤ g → r - i + 2 ≤ n → Calls Tryd.prog 78 #[.pointer (some ⟨g, 0, none⟩)] w (ReadsT (docR n true (dp + 1) (K.rest i r) i) g K i r dp w)
def ValAt (n : Nat) : Prop := ∀ (w : World) (g : Nat) (K : Byt) (i r : Nat) (dp : Int) (B : Nat) (k : Int), Cur w g K i r dp → r < K.bs.length → 1 ≤ k → k ≤ 11 → 0 ≤ dp → dp ≤ 20 → Env2 w B → B ≤ g → r - i + 3 ≤ n → Calls Tryd.prog 63 #[.pointer (some ⟨g, 0, none⟩), .int .i64 k] w (ReadsT (valF n k dp (K.rest i r) i) g K i r dp w)
theorem val_doc {n : Nat} {dp : Int} {R : List Int} {p : Int} : valF (n + 1) 5 dp R p = docR n false (dp + 1) R p := by
  rw [valF, if_pos rfl, docR]
  cases docF n false (dp + 1) R p <;> rfl
theorem val_list {n : Nat} {dp : Int} {R : List Int} {p : Int} : valF (n + 1) 6 dp R p = docR n true (dp + 1) R p := by
  rw [valF, if_neg (by decide), if_pos rfl, docR]
  cases docF n true (dp + 1) R p <;> rfl
theorem val_text {n : Nat} {dp : Int} {R : List Int} {p : Int} : valF (n + 1) 4 dp R p = match textF R p with | .bad c q => .bad c q | .ok s m => .ok (.mk 4 0 s [] []) m := by
  rw [valF, if_neg (by decide), if_neg (by decide), if_neg (by decide), if_pos rfl, textF]
  by_cases c0 : R.length < 4
  · rw [if_pos c0, if_pos c0]
  rw [if_neg c0, if_neg c0]
  by_cases c1 : num (R.take 4) = 0
  · rw [if_pos c1, if_pos c1]
  rw [if_neg c1, if_neg c1]
  by_cases c2 : (R.length : Int) < 4 + num (R.take 4)
  · rw [if_pos c2, if_pos c2]
  rw [if_neg c2, if_neg c2]
  by_cases c3 : R.getD (3 + (num (R.take 4)).toNat) 0 = 0 ∧ textOk (strOfNums ((R.drop 4).take ((num (R.take 4)).toNat - 1))) = true
  · rw [if_pos c3, if_pos c3]
  rw [if_neg c3, if_neg c3]
theorem val_blob {n : Nat} {dp : Int} {R : List Int} {p : Int} : valF (n + 1) 7 dp R p = match blobF R p with | .bad c q => .bad c q | .ok s m => .ok (.mk 7 0 s [] []) m := by
  rw [valF, if_neg (by decide), if_neg (by decide), if_neg (by decide), if_neg (by decide), if_pos rfl, blobF]
  by_cases c0 : R.length < 5
  · rw [if_pos c0, if_pos c0]
  rw [if_neg c0, if_neg c0]
  by_cases c1 : (R.length : Int) < 5 + num (R.take 4)
  · rw [if_pos c1, if_pos c1]
  rw [if_neg c1, if_neg c1]
  by_cases c2 : R.getD 4 0 = 0
  · rw [if_pos c2, if_pos c2]
  rw [if_neg c2, if_neg c2]
theorem val_id {n : Nat} {dp : Int} {R : List Int} {p : Int} : valF (n + 1) 8 dp R p = if R.length < 12 then .bad 20 p else .ok (.mk 8 0 (strOfNums (R.take 12)) [] []) 12 := by
  rw [valF, if_neg (by decide), if_neg (by decide), if_neg (by decide), if_neg (by decide), if_neg (by decide), if_pos rfl]
theorem val_flag {n : Nat} {dp : Int} {R : List Int} {p : Int} : valF (n + 1) 9 dp R p = match flagF R p with | .bad c q => .bad c q | .ok x m => .ok (.mk 9 x ⟨#[]⟩ [] []) m := by
  rw [valF, if_neg (by decide), if_neg (by decide), if_neg (by decide), if_neg (by decide), if_neg (by decide), if_neg (by decide), if_pos rfl, flagF]
  by_cases c0 : R.length < 1
  · rw [if_pos c0, if_pos c0]
  rw [if_neg c0, if_neg c0]
  by_cases c1 : 1 < R.getD 0 0
  · rw [if_pos c1, if_pos c1]
  rw [if_neg c1, if_neg c1]
theorem val_num {n : Nat} {k dp : Int} {R : List Int} {p : Int} (hk : k = 3 ∨ k = 10) : valF (n + 1) k dp R p = if R.length < 8 then .bad 20 p else .ok (.mk k (wrap64 (num (R.take 8))) ⟨#[]⟩ [] []) 8 := by
  rw [valF, if_neg (by omega), if_neg (by omega), if_pos hk]
theorem val_plain {n : Nat} {k dp : Int} {R : List Int} {p : Int} (hk : k = 1 ∨ k = 2 ∨ k = 11) : valF (n + 1) k dp R p = .ok (.mk k 0 ⟨#[]⟩ [] []) 0 := by
  rw [valF, if_neg (by omega), if_neg (by omega), if_neg (by omega), if_neg (by omega), if_neg (by omega), if_neg (by omega), if_neg (by omega)]
theorem nums_size (l : List Int) : (strOfNums l).size = l.length := by
  show (strOfNums l).data.toList.length = _
  simp [strOfNums]
theorem text_size {R : List Int} {p : Int} {s : ByteArray} {m : Nat} (h : textF R p = .ok s m) : s.size + 4 ≤ R.length := by
  unfold textF at h
  split at h
  · cases h
  split at h
  · cases h
  split at h
  · cases h
  split at h
  · injection h with h _
    subst h
    rw [nums_size, List.length_take, List.length_drop]
    omega
  · cases h
theorem blob_size {R : List Int} {p : Int} {s : ByteArray} {m : Nat} (h : blobF R p = .ok s m) : s.size + 4 ≤ R.length := by
  unfold blobF at h
  split at h
  · cases h
  split at h
  · cases h
  split at h
  · injection h with h _
    subst h
    rw [nums_size, List.length_take, List.length_drop]
    omega
  · cases h
theorem flag_okInt {R : List Int} {p x : Int} {m : Nat} (hB : isB R) (h : flagF R p = .ok x m) : okInt x := by
  unfold flagF at h
  split at h
  · cases h
  split at h
  · cases h
  rename_i h1 h2
  injection h with h _
  subst h
  cases R with
  | nil => simp at h1
  | cons y r =>
    have := hB y (by simp)
    simp at h2 ⊢
    unfold okInt
    omega
theorem wrap_ok (n : Int) : okInt (wrap64 n) := by unfold okInt wrap64; omega
set_option maxHeartbeats 4000000 in
theorem value_1 {g : Nat} {K : Byt} {i r : Nat} {dp : Int} (n : Nat) (w : World) (h : Cur w g K i r dp) : Calls Tryd.prog 63 #[.pointer (some ⟨g, 0, none⟩), .int .i64 1] w (ReadsT (valF (n + 1) 1 dp (K.rest i r) i) g K i r dp w) := by
  have HC := Lib.hid h
  clear h
  go_enter Tryd.func63, Tryd.ntmps63
  go_wp2_with fail
  have cp := row_cells (heap_alloc2_old w (.cells #[.int .i64 1, .int .i64 0, .string ⟨#[]⟩, .slice none 0 0, .slice none 0 0] 25) (.cells #[.int .i64 1, .int .i64 0, .string ⟨#[]⟩, .slice none 0 0, .slice none 0 0] 25))
  refine bodyPost_ret (v := .agg #[.int .i64 1, .int .i64 0, .string ⟨#[]⟩, .slice none 0 0, .slice none 0 0]) (by simp [results, Tryd.results63, go_sem, cp]) rfl ?_
  exact .ok (t := .mk 1 0 ⟨#[]⟩ none 0 [] none 0 []) (val_plain (by omega)) (by rw [T.val_mk]; rfl) (leaf_own _ _ (by unfold okInt; omega) (by unfold okInt; omega) (by simp [okLen, ByteArray.size])) (HC.out.then_ (below2 w _ _)) (Only.of_below (below2 w _ _))
set_option maxHeartbeats 4000000 in
theorem value_2 {g : Nat} {K : Byt} {i r : Nat} {dp : Int} (n : Nat) (w : World) (h : Cur w g K i r dp) : Calls Tryd.prog 63 #[.pointer (some ⟨g, 0, none⟩), .int .i64 2] w (ReadsT (valF (n + 1) 2 dp (K.rest i r) i) g K i r dp w) := by
  have HC := Lib.hid h
  clear h
  go_enter Tryd.func63, Tryd.ntmps63
  go_wp2_with fail
  have cp := row_cells (heap_alloc2_old w (.cells #[.int .i64 2, .int .i64 0, .string ⟨#[]⟩, .slice none 0 0, .slice none 0 0] 25) (.cells #[.int .i64 2, .int .i64 0, .string ⟨#[]⟩, .slice none 0 0, .slice none 0 0] 25))
  refine bodyPost_ret (v := .agg #[.int .i64 2, .int .i64 0, .string ⟨#[]⟩, .slice none 0 0, .slice none 0 0]) (by simp [results, Tryd.results63, go_sem, cp]) rfl ?_
  exact .ok (t := .mk 2 0 ⟨#[]⟩ none 0 [] none 0 []) (val_plain (by omega)) (by rw [T.val_mk]; rfl) (leaf_own _ _ (by unfold okInt; omega) (by unfold okInt; omega) (by simp [okLen, ByteArray.size])) (HC.out.then_ (below2 w _ _)) (Only.of_below (below2 w _ _))
set_option maxHeartbeats 4000000 in
theorem value_11 {g : Nat} {K : Byt} {i r : Nat} {dp : Int} (n : Nat) (w : World) (h : Cur w g K i r dp) : Calls Tryd.prog 63 #[.pointer (some ⟨g, 0, none⟩), .int .i64 11] w (ReadsT (valF (n + 1) 11 dp (K.rest i r) i) g K i r dp w) := by
  have HC := Lib.hid h
  clear h
  go_enter Tryd.func63, Tryd.ntmps63
  go_wp2_with fail
  have cp := row_cells (heap_alloc2_old w (.cells #[.int .i64 11, .int .i64 0, .string ⟨#[]⟩, .slice none 0 0, .slice none 0 0] 25) (.cells #[.int .i64 11, .int .i64 0, .string ⟨#[]⟩, .slice none 0 0, .slice none 0 0] 25))
  refine bodyPost_ret (v := .agg #[.int .i64 11, .int .i64 0, .string ⟨#[]⟩, .slice none 0 0, .slice none 0 0]) (by simp [results, Tryd.results63, go_sem, cp]) rfl ?_
  exact .ok (t := .mk 11 0 ⟨#[]⟩ none 0 [] none 0 []) (val_plain (by omega)) (by rw [T.val_mk]; rfl) (leaf_own _ _ (by unfold okInt; omega) (by unfold okInt; omega) (by simp [okLen, ByteArray.size])) (HC.out.then_ (below2 w _ _)) (Only.of_below (below2 w _ _))
set_option maxHeartbeats 4000000 in
theorem value_4 {g : Nat} {K : Byt} {i r : Nat} {dp : Int} (n : Nat) (w : World) (h : Cur w g K i r dp) (hr : r < K.bs.length) {B : Nat} (hE : Env2 w B) (hgB : B ≤ g) : Calls Tryd.prog 63 #[.pointer (some ⟨g, 0, none⟩), .int .i64 4] w (ReadsT (valF (n + 1) 4 dp (K.rest i r) i) g K i r dp w) := by
  have HC := Lib.hid h
  have HE := Lib.hid hE
  have hg := lt_of_block h.row
  have hfar := h.far
  have hroom := h.room
  have hlen := h.len
  have HB := Lib.hid h.restB
  have HF := Lib.hid (And.intro hlen (And.intro hroom hfar))
  clear h hE hlen hroom hfar
  go_enter Tryd.func63, Tryd.ntmps63
  go_wp2_with fail
  have b2 := below2 w (.cells #[.int .i64 0, .int .i64 0, .string ⟨#[]⟩, .slice none 0 0, .slice none 0 0] 25) (.cells #[.int .i64 4, .int .i64 0, .string ⟨#[]⟩, .slice none 0 0, .slice none 0 0] 25)
  have HCU := Lib.hid (HC.out.then_ b2)
  have HEU := Lib.hid (HE.out.then_ b2)
  have oU : Only [g] w ((w.alloc (.cells #[.int .i64 0, .int .i64 0, .string ⟨#[]⟩, .slice none 0 0, .slice none 0 0] 25)).alloc (.cells #[.int .i64 4, .int .i64 0, .string ⟨#[]⟩, .slice none 0 0, .slice none 0 0] 25)) := Only.of_below b2
  have z0 := heap_alloc2_old w (.cells #[.int .i64 0, .int .i64 0, .string ⟨#[]⟩, .slice none 0 0, .slice none 0 0] 25) (.cells #[.int .i64 4, .int .i64 0, .string ⟨#[]⟩, .slice none 0 0, .slice none 0 0] 25)
  have v0 := heap_alloc2_new w (.cells #[.int .i64 0, .int .i64 0, .string ⟨#[]⟩, .slice none 0 0, .slice none 0 0] 25) (.cells #[.int .i64 4, .int .i64 0, .string ⟨#[]⟩, .slice none 0 0, .slice none 0 0] 25)
  generalize (w.alloc (.cells #[.int .i64 0, .int .i64 0, .string ⟨#[]⟩, .slice none 0 0, .slice none 0 0] 25)).alloc (.cells #[.int .i64 4, .int .i64 0, .string ⟨#[]⟩, .slice none 0 0, .slice none 0 0] 25) = U at HCU HEU oU z0 v0 b2 ⊢
  have hU2 : w.heap.size + 1 < U.heap.size := lt_of_block v0
  refine (text_any U HCU.out hr HEU.out hgB).mono ?_
  rintro e w3 ⟨ho, hres⟩
  rcases hT : textF (K.rest i r) i with ⟨c, q⟩ | ⟨s, m⟩
  all_goals rw [hT] at hres
  rotate_left
  obtain ⟨rfl, hc⟩ := hres
  rotate_left
  obtain rfl := hres
  · dsimp only [faultE]
    clear z0 v0
    go_wp2_with fail
    try simp only [Exit.inBlock, Exit.then]
    exact ⟨rfl, .bad (by rw [val_text, hT]) (oU.trans ho)⟩
  · have z3 := keep_row ho z0 (by simp; omega)
    have v3 := keep_row ho v0 (by simp; omega)
    have HC3 := Lib.hid hc
    have HO3 := Lib.hid (oU.trans ho)
    have cb := row_cells v3
    have fb := rowf v3
    have cb2 : ∀ v o, (w3.setCell ⟨w.heap.size + 1, 2, none⟩ v).cell? ⟨w.heap.size + 1, o, none⟩ = (#[.int .i64 4, .int .i64 0, v, .slice none 0 0, .slice none 0 0] : Array Value)[o]? := fun v => row_cells (by rw [heap_setCell_same _ _ _ _ _ _ v3]; rfl)
    have hz3 : ∀ v, (w3.setCell ⟨w.heap.size + 1, 2, none⟩ v).heap[w.heap.size]? = some (.cells #[.int .i64 0, .int .i64 0, .string ⟨#[]⟩, .slice none 0 0, .slice none 0 0] 25) := fun v => (heap_setCell_other w3 ⟨w.heap.size + 1, 2, none⟩ w.heap.size v (by simp)).trans z3
    have cz := fun v => row_cells (hz3 v)
    have fz := fun v => rowf (hz3 v)
    have HZ3 := Lib.hid hz3
    clear hc ho z0 v0 hz3 oU
    go_wp2_with fail
    have cp := row_cells (put5row (HZ3.out (.string s)) (.int .i64 4) (.int .i64 0) (.string s) (.slice none 0 0) (.slice none 0 0))
    refine bodyPost_ret (v := .agg #[.int .i64 4, .int .i64 0, .string s, .slice none 0 0, .slice none 0 0]) (by simp [results, Tryd.results63, go_sem, cp]) rfl ?_
    have oW : Only [w.heap.size, w.heap.size + 1] w3 _ := ((Only.refl [w.heap.size, w.heap.size + 1] w3).setCell (p := ⟨w.heap.size + 1, 2, none⟩) (.inl (by simp)) (.string s)).trans (subS (put5only _ w.heap.size (.int .i64 4) (.int .i64 0) (.string s) (.slice none 0 0) (.slice none 0 0)) (by simp))
    refine .ok (t := T.mk 4 0 s none 0 [] none 0 []) (by rw [val_text, hT]) (by rw [T.val_mk]; rfl) (leaf_own _ _ (by unfold okInt; omega) (by unfold okInt; omega) (by have := text_size hT; have := HF.out; unfold okLen; omega)) (HC.out.past HC3.out oW (by simp)) ?_
    exact HO3.out.then_ oW (fun x hx => .inr (by simp at hx; omega))
set_option maxHeartbeats 4000000 in
theorem value_7 {g : Nat} {K : Byt} {i r : Nat} {dp : Int} (n : Nat) (w : World) (h : Cur w g K i r dp) (hr : r < K.bs.length) {B : Nat} (hE : Env2 w B) (hgB : B ≤ g) : Calls Tryd.prog 63 #[.pointer (some ⟨g, 0, none⟩), .int .i64 7] w (ReadsT (valF (n + 1) 7 dp (K.rest i r) i) g K i r dp w) := by
  have HC := Lib.hid h
  have HE := Lib.hid hE
  have hg := lt_of_block h.row
  have hfar := h.far
  have hroom := h.room
  have hlen := h.len
  have HB := Lib.hid h.restB
  have HF := Lib.hid (And.intro hlen (And.intro hroom hfar))
  clear h hE hlen hroom hfar
  go_enter Tryd.func63, Tryd.ntmps63
  go_wp2_with fail
  have b2 := below2 w (.cells #[.int .i64 0, .int .i64 0, .string ⟨#[]⟩, .slice none 0 0, .slice none 0 0] 25) (.cells #[.int .i64 7, .int .i64 0, .string ⟨#[]⟩, .slice none 0 0, .slice none 0 0] 25)
  have HCU := Lib.hid (HC.out.then_ b2)
  have HEU := Lib.hid (HE.out.then_ b2)
  have oU : Only [g] w ((w.alloc (.cells #[.int .i64 0, .int .i64 0, .string ⟨#[]⟩, .slice none 0 0, .slice none 0 0] 25)).alloc (.cells #[.int .i64 7, .int .i64 0, .string ⟨#[]⟩, .slice none 0 0, .slice none 0 0] 25)) := Only.of_below b2
  have z0 := heap_alloc2_old w (.cells #[.int .i64 0, .int .i64 0, .string ⟨#[]⟩, .slice none 0 0, .slice none 0 0] 25) (.cells #[.int .i64 7, .int .i64 0, .string ⟨#[]⟩, .slice none 0 0, .slice none 0 0] 25)
  have v0 := heap_alloc2_new w (.cells #[.int .i64 0, .int .i64 0, .string ⟨#[]⟩, .slice none 0 0, .slice none 0 0] 25) (.cells #[.int .i64 7, .int .i64 0, .string ⟨#[]⟩, .slice none 0 0, .slice none 0 0] 25)
  generalize (w.alloc (.cells #[.int .i64 0, .int .i64 0, .string ⟨#[]⟩, .slice none 0 0, .slice none 0 0] 25)).alloc (.cells #[.int .i64 7, .int .i64 0, .string ⟨#[]⟩, .slice none 0 0, .slice none 0 0] 25) = U at HCU HEU oU z0 v0 b2 ⊢
  have hU2 : w.heap.size + 1 < U.heap.size := lt_of_block v0
  refine (blob_any U HCU.out hr).mono ?_
  rintro e w3 ⟨ho, hres⟩
  rcases hT : blobF (K.rest i r) i with ⟨c, q⟩ | ⟨s, m⟩
  all_goals rw [hT] at hres
  rotate_left
  obtain ⟨rfl, hc⟩ := hres
  rotate_left
  obtain rfl := hres
  · dsimp only [faultE]
    clear z0 v0
    go_wp2_with fail
    try simp only [Exit.inBlock, Exit.then]
    exact ⟨rfl, .bad (by rw [val_blob, hT]) (oU.trans ho)⟩
  · have z3 := keep_row ho z0 (by simp; omega)
    have v3 := keep_row ho v0 (by simp; omega)
    have HC3 := Lib.hid hc
    have HO3 := Lib.hid (oU.trans ho)
    have cb := row_cells v3
    have fb := rowf v3
    have cb2 : ∀ v o, (w3.setCell ⟨w.heap.size + 1, 2, none⟩ v).cell? ⟨w.heap.size + 1, o, none⟩ = (#[.int .i64 7, .int .i64 0, v, .slice none 0 0, .slice none 0 0] : Array Value)[o]? := fun v => row_cells (by rw [heap_setCell_same _ _ _ _ _ _ v3]; rfl)
    have hz3 : ∀ v, (w3.setCell ⟨w.heap.size + 1, 2, none⟩ v).heap[w.heap.size]? = some (.cells #[.int .i64 0, .int .i64 0, .string ⟨#[]⟩, .slice none 0 0, .slice none 0 0] 25) := fun v => (heap_setCell_other w3 ⟨w.heap.size + 1, 2, none⟩ w.heap.size v (by simp)).trans z3
    have cz := fun v => row_cells (hz3 v)
    have fz := fun v => rowf (hz3 v)
    have HZ3 := Lib.hid hz3
    clear hc ho z0 v0 hz3 oU
    go_wp2_with fail
    have cp := row_cells (put5row (HZ3.out (.string s)) (.int .i64 7) (.int .i64 0) (.string s) (.slice none 0 0) (.slice none 0 0))
    refine bodyPost_ret (v := .agg #[.int .i64 7, .int .i64 0, .string s, .slice none 0 0, .slice none 0 0]) (by simp [results, Tryd.results63, go_sem, cp]) rfl ?_
    have oW : Only [w.heap.size, w.heap.size + 1] w3 _ := ((Only.refl [w.heap.size, w.heap.size + 1] w3).setCell (p := ⟨w.heap.size + 1, 2, none⟩) (.inl (by simp)) (.string s)).trans (subS (put5only _ w.heap.size (.int .i64 7) (.int .i64 0) (.string s) (.slice none 0 0) (.slice none 0 0)) (by simp))
    refine .ok (t := T.mk 7 0 s none 0 [] none 0 []) (by rw [val_blob, hT]) (by rw [T.val_mk]; rfl) (leaf_own _ _ (by unfold okInt; omega) (by unfold okInt; omega) (by have := blob_size hT; have := HF.out; unfold okLen; omega)) (HC.out.past HC3.out oW (by simp)) ?_
    exact HO3.out.then_ oW (fun x hx => .inr (by simp at hx; omega))
set_option maxHeartbeats 4000000 in
theorem value_9 {g : Nat} {K : Byt} {i r : Nat} {dp : Int} (n : Nat) (w : World) (h : Cur w g K i r dp) (hr : r < K.bs.length) {B : Nat} (hE : Env2 w B) (hgB : B ≤ g) : Calls Tryd.prog 63 #[.pointer (some ⟨g, 0, none⟩), .int .i64 9] w (ReadsT (valF (n + 1) 9 dp (K.rest i r) i) g K i r dp w) := by
  have HC := Lib.hid h
  have HE := Lib.hid hE
  have hg := lt_of_block h.row
  have hfar := h.far
  have hroom := h.room
  have hlen := h.len
  have HB := Lib.hid h.restB
  have HF := Lib.hid (And.intro hlen (And.intro hroom hfar))
  clear h hE hlen hroom hfar
  go_enter Tryd.func63, Tryd.ntmps63
  go_wp2_with fail
  have b2 := below2 w (.cells #[.int .i64 0, .int .i64 0, .string ⟨#[]⟩, .slice none 0 0, .slice none 0 0] 25) (.cells #[.int .i64 9, .int .i64 0, .string ⟨#[]⟩, .slice none 0 0, .slice none 0 0] 25)
  have HCU := Lib.hid (HC.out.then_ b2)
  have HEU := Lib.hid (HE.out.then_ b2)
  have oU : Only [g] w ((w.alloc (.cells #[.int .i64 0, .int .i64 0, .string ⟨#[]⟩, .slice none 0 0, .slice none 0 0] 25)).alloc (.cells #[.int .i64 9, .int .i64 0, .string ⟨#[]⟩, .slice none 0 0, .slice none 0 0] 25)) := Only.of_below b2
  have z0 := heap_alloc2_old w (.cells #[.int .i64 0, .int .i64 0, .string ⟨#[]⟩, .slice none 0 0, .slice none 0 0] 25) (.cells #[.int .i64 9, .int .i64 0, .string ⟨#[]⟩, .slice none 0 0, .slice none 0 0] 25)
  have v0 := heap_alloc2_new w (.cells #[.int .i64 0, .int .i64 0, .string ⟨#[]⟩, .slice none 0 0, .slice none 0 0] 25) (.cells #[.int .i64 9, .int .i64 0, .string ⟨#[]⟩, .slice none 0 0, .slice none 0 0] 25)
  generalize (w.alloc (.cells #[.int .i64 0, .int .i64 0, .string ⟨#[]⟩, .slice none 0 0, .slice none 0 0] 25)).alloc (.cells #[.int .i64 9, .int .i64 0, .string ⟨#[]⟩, .slice none 0 0, .slice none 0 0] 25) = U at HCU HEU oU z0 v0 b2 ⊢
  have hU2 : w.heap.size + 1 < U.heap.size := lt_of_block v0
  refine (flag_any U HCU.out).mono ?_
  rintro e w3 ⟨ho, hres⟩
  rcases hT : flagF (K.rest i r) i with ⟨c, q⟩ | ⟨s, m⟩
  all_goals rw [hT] at hres
  rotate_left
  obtain ⟨rfl, hc⟩ := hres
  rotate_left
  obtain rfl := hres
  · dsimp only [faultE]
    clear z0 v0
    go_wp2_with fail
    try simp only [Exit.inBlock, Exit.then]
    exact ⟨rfl, .bad (by rw [val_flag, hT]) (oU.trans ho)⟩
  · have z3 := keep_row ho z0 (by simp; omega)
    have v3 := keep_row ho v0 (by simp; omega)
    have HC3 := Lib.hid hc
    have HO3 := Lib.hid (oU.trans ho)
    have cb := row_cells v3
    have fb := rowf v3
    have cb2 : ∀ v o, (w3.setCell ⟨w.heap.size + 1, 1, none⟩ v).cell? ⟨w.heap.size + 1, o, none⟩ = (#[.int .i64 9, v, .string ⟨#[]⟩, .slice none 0 0, .slice none 0 0] : Array Value)[o]? := fun v => row_cells (by rw [heap_setCell_same _ _ _ _ _ _ v3]; rfl)
    have hz3 : ∀ v, (w3.setCell ⟨w.heap.size + 1, 1, none⟩ v).heap[w.heap.size]? = some (.cells #[.int .i64 0, .int .i64 0, .string ⟨#[]⟩, .slice none 0 0, .slice none 0 0] 25) := fun v => (heap_setCell_other w3 ⟨w.heap.size + 1, 1, none⟩ w.heap.size v (by simp)).trans z3
    have cz := fun v => row_cells (hz3 v)
    have fz := fun v => rowf (hz3 v)
    have HZ3 := Lib.hid hz3
    clear hc ho z0 v0 hz3 oU
    go_wp2_with fail
    have cp := row_cells (put5row (HZ3.out (.int .i64 s)) (.int .i64 9) (.int .i64 s) (.string ⟨#[]⟩) (.slice none 0 0) (.slice none 0 0))
    refine bodyPost_ret (v := .agg #[.int .i64 9, .int .i64 s, .string ⟨#[]⟩, .slice none 0 0, .slice none 0 0]) (by simp [results, Tryd.results63, go_sem, cp]) rfl ?_
    have oW : Only [w.heap.size, w.heap.size + 1] w3 _ := ((Only.refl [w.heap.size, w.heap.size + 1] w3).setCell (p := ⟨w.heap.size + 1, 1, none⟩) (.inl (by simp)) (.int .i64 s)).trans (subS (put5only _ w.heap.size (.int .i64 9) (.int .i64 s) (.string ⟨#[]⟩) (.slice none 0 0) (.slice none 0 0)) (by simp))
    refine .ok (t := T.mk 9 s ⟨#[]⟩ none 0 [] none 0 []) (by rw [val_flag, hT]) (by rw [T.val_mk]; rfl) (leaf_own _ _ (by unfold okInt; omega) (flag_okInt HB.out hT) (by simp [okLen, ByteArray.size])) (HC.out.past HC3.out oW (by simp)) ?_
    exact HO3.out.then_ oW (fun x hx => .inr (by simp at hx; omega))
set_option maxHeartbeats 4000000 in
theorem value_3 {g : Nat} {K : Byt} {i r : Nat} {dp : Int} (n : Nat) (w : World) (h : Cur w g K i r dp) (hr : r < K.bs.length) {B : Nat} (hE : Env2 w B) (hgB : B ≤ g) : Calls Tryd.prog 63 #[.pointer (some ⟨g, 0, none⟩), .int .i64 3] w (ReadsT (valF (n + 1) 3 dp (K.rest i r) i) g K i r dp w) := by
  have HC := Lib.hid h
  have HE := Lib.hid hE
  have hg := lt_of_block h.row
  have hfar := h.far
  have hroom := h.room
  have hlen := h.len
  have HB := Lib.hid h.restB
  have HF := Lib.hid (And.intro hlen (And.intro hroom hfar))
  clear h hE hlen hroom hfar
  go_enter Tryd.func63, Tryd.ntmps63
  go_wp2_with fail
  have b2 := below2 w (.cells #[.int .i64 0, .int .i64 0, .string ⟨#[]⟩, .slice none 0 0, .slice none 0 0] 25) (.cells #[.int .i64 3, .int .i64 0, .string ⟨#[]⟩, .slice none 0 0, .slice none 0 0] 25)
  have HCU := Lib.hid (HC.out.then_ b2)
  have HEU := Lib.hid (HE.out.then_ b2)
  have oU : Only [g] w ((w.alloc (.cells #[.int .i64 0, .int .i64 0, .string ⟨#[]⟩, .slice none 0 0, .slice none 0 0] 25)).alloc (.cells #[.int .i64 3, .int .i64 0, .string ⟨#[]⟩, .slice none 0 0, .slice none 0 0] 25)) := Only.of_below b2
  have z0 := heap_alloc2_old w (.cells #[.int .i64 0, .int .i64 0, .string ⟨#[]⟩, .slice none 0 0, .slice none 0 0] 25) (.cells #[.int .i64 3, .int .i64 0, .string ⟨#[]⟩, .slice none 0 0, .slice none 0 0] 25)
  have v0 := heap_alloc2_new w (.cells #[.int .i64 0, .int .i64 0, .string ⟨#[]⟩, .slice none 0 0, .slice none 0 0] 25) (.cells #[.int .i64 3, .int .i64 0, .string ⟨#[]⟩, .slice none 0 0, .slice none 0 0] 25)
  generalize (w.alloc (.cells #[.int .i64 0, .int .i64 0, .string ⟨#[]⟩, .slice none 0 0, .slice none 0 0] 25)).alloc (.cells #[.int .i64 3, .int .i64 0, .string ⟨#[]⟩, .slice none 0 0, .slice none 0 0] 25) = U at HCU HEU oU z0 v0 b2 ⊢
  have hU2 : w.heap.size + 1 < U.heap.size := lt_of_block v0
  refine (number_any2 8 (by omega) (by omega) U HCU.out).mono ?_
  rintro e w3 (⟨hlt, rfl, ho⟩ | ⟨hge, rfl, hc, ho⟩)
  · dsimp only [faultE]
    clear z0 v0
    go_wp2_with fail
    try simp only [Exit.inBlock, Exit.then]
    exact ⟨rfl, .bad (by rw [val_num (by omega), if_pos (by have := HF.out; omega)]) (oU.trans ho)⟩
  · have z3 := keep_row ho z0 (by simp; omega)
    have v3 := keep_row ho v0 (by simp; omega)
    have HC3 := Lib.hid hc
    have HO3 := Lib.hid (oU.trans ho)
    have cb := row_cells v3
    have fb := rowf v3
    have cb2 : ∀ v o, (w3.setCell ⟨w.heap.size + 1, 1, none⟩ v).cell? ⟨w.heap.size + 1, o, none⟩ = (#[.int .i64 3, v, .string ⟨#[]⟩, .slice none 0 0, .slice none 0 0] : Array Value)[o]? := fun v => row_cells (by rw [heap_setCell_same _ _ _ _ _ _ v3]; rfl)
    have hz3 : ∀ v, (w3.setCell ⟨w.heap.size + 1, 1, none⟩ v).heap[w.heap.size]? = some (.cells #[.int .i64 0, .int .i64 0, .string ⟨#[]⟩, .slice none 0 0, .slice none 0 0] 25) := fun v => (heap_setCell_other w3 ⟨w.heap.size + 1, 1, none⟩ w.heap.size v (by simp)).trans z3
    have cz := fun v => row_cells (hz3 v)
    have fz := fun v => rowf (hz3 v)
    have HZ3 := Lib.hid hz3
    clear hc ho z0 v0 hz3 oU
    go_wp2_with fail
    have cp := row_cells (put5row (HZ3.out (.int .i64 (wrap64 (num ((K.rest i r).take 8))))) (.int .i64 3) (.int .i64 (wrap64 (num ((K.rest i r).take 8)))) (.string ⟨#[]⟩) (.slice none 0 0) (.slice none 0 0))
    refine bodyPost_ret (v := .agg #[.int .i64 3, .int .i64 (wrap64 (num ((K.rest i r).take 8))), .string ⟨#[]⟩, .slice none 0 0, .slice none 0 0]) (by simp [results, Tryd.results63, go_sem, cp]) rfl ?_
    have oW : Only [w.heap.size, w.heap.size + 1] w3 _ := ((Only.refl [w.heap.size, w.heap.size + 1] w3).setCell (p := ⟨w.heap.size + 1, 1, none⟩) (.inl (by simp)) (.int .i64 (wrap64 (num ((K.rest i r).take 8))))).trans (subS (put5only _ w.heap.size (.int .i64 3) (.int .i64 (wrap64 (num ((K.rest i r).take 8)))) (.string ⟨#[]⟩) (.slice none 0 0) (.slice none 0 0)) (by simp))
    refine .ok (t := T.mk 3 (wrap64 (num ((K.rest i r).take 8))) ⟨#[]⟩ none 0 [] none 0 []) (by rw [val_num (by omega), if_neg (by have := HF.out; omega)]) (by rw [T.val_mk]; rfl) (leaf_own _ _ (by unfold okInt; omega) (wrap_ok _) (by simp [okLen, ByteArray.size])) (HC.out.past HC3.out oW (by simp)) ?_
    exact HO3.out.then_ oW (fun x hx => .inr (by simp at hx; omega))
set_option maxHeartbeats 4000000 in
theorem value_10 {g : Nat} {K : Byt} {i r : Nat} {dp : Int} (n : Nat) (w : World) (h : Cur w g K i r dp) (hr : r < K.bs.length) {B : Nat} (hE : Env2 w B) (hgB : B ≤ g) : Calls Tryd.prog 63 #[.pointer (some ⟨g, 0, none⟩), .int .i64 10] w (ReadsT (valF (n + 1) 10 dp (K.rest i r) i) g K i r dp w) := by
  have HC := Lib.hid h
  have HE := Lib.hid hE
  have hg := lt_of_block h.row
  have hfar := h.far
  have hroom := h.room
  have hlen := h.len
  have HB := Lib.hid h.restB
  have HF := Lib.hid (And.intro hlen (And.intro hroom hfar))
  clear h hE hlen hroom hfar
  go_enter Tryd.func63, Tryd.ntmps63
  go_wp2_with fail
  have b2 := below2 w (.cells #[.int .i64 0, .int .i64 0, .string ⟨#[]⟩, .slice none 0 0, .slice none 0 0] 25) (.cells #[.int .i64 10, .int .i64 0, .string ⟨#[]⟩, .slice none 0 0, .slice none 0 0] 25)
  have HCU := Lib.hid (HC.out.then_ b2)
  have HEU := Lib.hid (HE.out.then_ b2)
  have oU : Only [g] w ((w.alloc (.cells #[.int .i64 0, .int .i64 0, .string ⟨#[]⟩, .slice none 0 0, .slice none 0 0] 25)).alloc (.cells #[.int .i64 10, .int .i64 0, .string ⟨#[]⟩, .slice none 0 0, .slice none 0 0] 25)) := Only.of_below b2
  have z0 := heap_alloc2_old w (.cells #[.int .i64 0, .int .i64 0, .string ⟨#[]⟩, .slice none 0 0, .slice none 0 0] 25) (.cells #[.int .i64 10, .int .i64 0, .string ⟨#[]⟩, .slice none 0 0, .slice none 0 0] 25)
  have v0 := heap_alloc2_new w (.cells #[.int .i64 0, .int .i64 0, .string ⟨#[]⟩, .slice none 0 0, .slice none 0 0] 25) (.cells #[.int .i64 10, .int .i64 0, .string ⟨#[]⟩, .slice none 0 0, .slice none 0 0] 25)
  generalize (w.alloc (.cells #[.int .i64 0, .int .i64 0, .string ⟨#[]⟩, .slice none 0 0, .slice none 0 0] 25)).alloc (.cells #[.int .i64 10, .int .i64 0, .string ⟨#[]⟩, .slice none 0 0, .slice none 0 0] 25) = U at HCU HEU oU z0 v0 b2 ⊢
  have hU2 : w.heap.size + 1 < U.heap.size := lt_of_block v0
  refine (number_any2 8 (by omega) (by omega) U HCU.out).mono ?_
  rintro e w3 (⟨hlt, rfl, ho⟩ | ⟨hge, rfl, hc, ho⟩)
  · dsimp only [faultE]
    clear z0 v0
    go_wp2_with fail
    try simp only [Exit.inBlock, Exit.then]
    exact ⟨rfl, .bad (by rw [val_num (by omega), if_pos (by have := HF.out; omega)]) (oU.trans ho)⟩
  · have z3 := keep_row ho z0 (by simp; omega)
    have v3 := keep_row ho v0 (by simp; omega)
    have HC3 := Lib.hid hc
    have HO3 := Lib.hid (oU.trans ho)
    have cb := row_cells v3
    have fb := rowf v3
    have cb2 : ∀ v o, (w3.setCell ⟨w.heap.size + 1, 1, none⟩ v).cell? ⟨w.heap.size + 1, o, none⟩ = (#[.int .i64 10, v, .string ⟨#[]⟩, .slice none 0 0, .slice none 0 0] : Array Value)[o]? := fun v => row_cells (by rw [heap_setCell_same _ _ _ _ _ _ v3]; rfl)
    have hz3 : ∀ v, (w3.setCell ⟨w.heap.size + 1, 1, none⟩ v).heap[w.heap.size]? = some (.cells #[.int .i64 0, .int .i64 0, .string ⟨#[]⟩, .slice none 0 0, .slice none 0 0] 25) := fun v => (heap_setCell_other w3 ⟨w.heap.size + 1, 1, none⟩ w.heap.size v (by simp)).trans z3
    have cz := fun v => row_cells (hz3 v)
    have fz := fun v => rowf (hz3 v)
    have HZ3 := Lib.hid hz3
    clear hc ho z0 v0 hz3 oU
    go_wp2_with fail
    have cp := row_cells (put5row (HZ3.out (.int .i64 (wrap64 (num ((K.rest i r).take 8))))) (.int .i64 10) (.int .i64 (wrap64 (num ((K.rest i r).take 8)))) (.string ⟨#[]⟩) (.slice none 0 0) (.slice none 0 0))
    refine bodyPost_ret (v := .agg #[.int .i64 10, .int .i64 (wrap64 (num ((K.rest i r).take 8))), .string ⟨#[]⟩, .slice none 0 0, .slice none 0 0]) (by simp [results, Tryd.results63, go_sem, cp]) rfl ?_
    have oW : Only [w.heap.size, w.heap.size + 1] w3 _ := ((Only.refl [w.heap.size, w.heap.size + 1] w3).setCell (p := ⟨w.heap.size + 1, 1, none⟩) (.inl (by simp)) (.int .i64 (wrap64 (num ((K.rest i r).take 8))))).trans (subS (put5only _ w.heap.size (.int .i64 10) (.int .i64 (wrap64 (num ((K.rest i r).take 8)))) (.string ⟨#[]⟩) (.slice none 0 0) (.slice none 0 0)) (by simp))
    refine .ok (t := T.mk 10 (wrap64 (num ((K.rest i r).take 8))) ⟨#[]⟩ none 0 [] none 0 []) (by rw [val_num (by omega), if_neg (by have := HF.out; omega)]) (by rw [T.val_mk]; rfl) (leaf_own _ _ (by unfold okInt; omega) (wrap_ok _) (by simp [okLen, ByteArray.size])) (HC.out.past HC3.out oW (by simp)) ?_
    exact HO3.out.then_ oW (fun x hx => .inr (by simp at hx; omega))
set_option maxHeartbeats 4000000 in
theorem value_8 {g : Nat} {K : Byt} {i r : Nat} {dp : Int} (n : Nat) (w : World) (h : Cur w g K i r dp) (hr : r < K.bs.length) {B : Nat} (hE : Env2 w B) (hgB : B ≤ g) : Calls Tryd.prog 63 #[.pointer (some ⟨g, 0, none⟩), .int .i64 8] w (ReadsT (valF (n + 1) 8 dp (K.rest i r) i) g K i r dp w) := by
  have HC := Lib.hid h
  have HE := Lib.hid hE
  have hg := lt_of_block h.row
  have hfar := h.far
  have hroom := h.room
  have hlen := h.len
  have HB := Lib.hid h.restB
  have HF := Lib.hid (And.intro hlen (And.intro hroom hfar))
  clear h hE hlen hroom hfar
  go_enter Tryd.func63, Tryd.ntmps63
  go_wp2_with fail
  have b2 := below2 w (.cells #[.int .i64 0, .int .i64 0, .string ⟨#[]⟩, .slice none 0 0, .slice none 0 0] 25) (.cells #[.int .i64 8, .int .i64 0, .string ⟨#[]⟩, .slice none 0 0, .slice none 0 0] 25)
  have HCU := Lib.hid (HC.out.then_ b2)
  have HEU := Lib.hid (HE.out.then_ b2)
  have oU : Only [g] w ((w.alloc (.cells #[.int .i64 0, .int .i64 0, .string ⟨#[]⟩, .slice none 0 0, .slice none 0 0] 25)).alloc (.cells #[.int .i64 8, .int .i64 0, .string ⟨#[]⟩, .slice none 0 0, .slice none 0 0] 25)) := Only.of_below b2
  have z0 := heap_alloc2_old w (.cells #[.int .i64 0, .int .i64 0, .string ⟨#[]⟩, .slice none 0 0, .slice none 0 0] 25) (.cells #[.int .i64 8, .int .i64 0, .string ⟨#[]⟩, .slice none 0 0, .slice none 0 0] 25)
  have v0 := heap_alloc2_new w (.cells #[.int .i64 0, .int .i64 0, .string ⟨#[]⟩, .slice none 0 0, .slice none 0 0] 25) (.cells #[.int .i64 8, .int .i64 0, .string ⟨#[]⟩, .slice none 0 0, .slice none 0 0] 25)
  generalize (w.alloc (.cells #[.int .i64 0, .int .i64 0, .string ⟨#[]⟩, .slice none 0 0, .slice none 0 0] 25)).alloc (.cells #[.int .i64 8, .int .i64 0, .string ⟨#[]⟩, .slice none 0 0, .slice none 0 0] 25) = U at HCU HEU oU z0 v0 b2 ⊢
  have hU2 : w.heap.size + 1 < U.heap.size := lt_of_block v0
  refine (take_any 12 U HCU.out (by have := HC.out.le; omega)).mono ?_
  rintro e w3 (⟨hlt, rfl, ho⟩ | ⟨hge, rfl, hc, ho⟩)
  · dsimp only [faultE]
    clear z0 v0
    go_wp2_with fail
    try simp only [Exit.inBlock, Exit.then]
    exact ⟨rfl, .bad (by rw [val_id, if_pos (by have := HF.out; omega)]) (oU.trans ho)⟩
  · have z3 := keep_row ho z0 (by simp; omega)
    have v3 := keep_row ho v0 (by simp; omega)
    have HC3 := Lib.hid hc
    have HO3 := Lib.hid (oU.trans ho)
    have cb := row_cells v3
    have fb := rowf v3
    have cb2 : ∀ v o, (w3.setCell ⟨w.heap.size + 1, 2, none⟩ v).cell? ⟨w.heap.size + 1, o, none⟩ = (#[.int .i64 8, .int .i64 0, v, .slice none 0 0, .slice none 0 0] : Array Value)[o]? := fun v => row_cells (by rw [heap_setCell_same _ _ _ _ _ _ v3]; rfl)
    have hz3 : ∀ v, (w3.setCell ⟨w.heap.size + 1, 2, none⟩ v).heap[w.heap.size]? = some (.cells #[.int .i64 0, .int .i64 0, .string ⟨#[]⟩, .slice none 0 0, .slice none 0 0] 25) := fun v => (heap_setCell_other w3 ⟨w.heap.size + 1, 2, none⟩ w.heap.size v (by simp)).trans z3
    have cz := fun v => row_cells (hz3 v)
    have fz := fun v => rowf (hz3 v)
    have HZ3 := Lib.hid hz3
    clear hc ho z0 v0 hz3 oU
    go_wp2_with fail
    have cp := row_cells (put5row (HZ3.out (.string (strOfNums ((K.rest i r).take 12)))) (.int .i64 8) (.int .i64 0) (.string (strOfNums ((K.rest i r).take 12))) (.slice none 0 0) (.slice none 0 0))
    refine bodyPost_ret (v := .agg #[.int .i64 8, .int .i64 0, .string (strOfNums ((K.rest i r).take 12)), .slice none 0 0, .slice none 0 0]) (by simp [results, Tryd.results63, go_sem, cp]) rfl ?_
    have oW : Only [w.heap.size, w.heap.size + 1] w3 _ := ((Only.refl [w.heap.size, w.heap.size + 1] w3).setCell (p := ⟨w.heap.size + 1, 2, none⟩) (.inl (by simp)) (.string (strOfNums ((K.rest i r).take 12)))).trans (subS (put5only _ w.heap.size (.int .i64 8) (.int .i64 0) (.string (strOfNums ((K.rest i r).take 12))) (.slice none 0 0) (.slice none 0 0)) (by simp))
    refine .ok (t := T.mk 8 0 (strOfNums ((K.rest i r).take 12)) none 0 [] none 0 []) (by rw [val_id, if_neg (by have := HF.out; omega)]) (by rw [T.val_mk]; rfl) (leaf_own _ _ (by unfold okInt; omega) (by unfold okInt; omega) (by rw [nums_size, List.length_take]; unfold okLen; omega)) (HC.out.past HC3.out oW (by simp)) ?_
    exact HO3.out.then_ oW (fun x hx => .inr (by simp at hx; omega))
set_option maxHeartbeats 4000000 in
theorem value_5 {g : Nat} {K : Byt} {i r : Nat} {dp : Int} (n : Nat) (hD : DocAt n) (w : World) (h : Cur w g K i r dp) (hd0 : 0 ≤ dp) (hd1 : dp ≤ 20) {B : Nat} (hE : Env2 w B) (hgB : B ≤ g) (hn : r - i + 2 ≤ n) : Calls Tryd.prog 63 #[.pointer (some ⟨g, 0, none⟩), .int .i64 5] w (ReadsT (valF (n + 1) 5 dp (K.rest i r) i) g K i r dp w) := by
  have HC := Lib.hid h
  have HE := Lib.hid hE
  have hg := lt_of_block h.row
  have HD := Lib.hid hD
  have HN := Lib.hid hn
  clear h hE hD hn
  go_enter Tryd.func63, Tryd.ntmps63
  go_wp2_with fail
  have b2 := below2 w (.cells #[.int .i64 0, .int .i64 0, .string ⟨#[]⟩, .slice none 0 0, .slice none 0 0] 25) (.cells #[.int .i64 5, .int .i64 0, .string ⟨#[]⟩, .slice none 0 0, .slice none 0 0] 25)
  have HCU := Lib.hid (HC.out.then_ b2)
  have HEU := Lib.hid (HE.out.then_ b2)
  have oU : Only [g] w ((w.alloc (.cells #[.int .i64 0, .int .i64 0, .string ⟨#[]⟩, .slice none 0 0, .slice none 0 0] 25)).alloc (.cells #[.int .i64 5, .int .i64 0, .string ⟨#[]⟩, .slice none 0 0, .slice none 0 0] 25)) := Only.of_below b2
  have z0 := heap_alloc2_old w (.cells #[.int .i64 0, .int .i64 0, .string ⟨#[]⟩, .slice none 0 0, .slice none 0 0] 25) (.cells #[.int .i64 5, .int .i64 0, .string ⟨#[]⟩, .slice none 0 0, .slice none 0 0] 25)
  have hU1 : w.heap.size < ((w.alloc (.cells #[.int .i64 0, .int .i64 0, .string ⟨#[]⟩, .slice none 0 0, .slice none 0 0] 25)).alloc (.cells #[.int .i64 5, .int .i64 0, .string ⟨#[]⟩, .slice none 0 0, .slice none 0 0] 25)).heap.size := lt_of_block z0
  generalize (w.alloc (.cells #[.int .i64 0, .int .i64 0, .string ⟨#[]⟩, .slice none 0 0, .slice none 0 0] 25)).alloc (.cells #[.int .i64 5, .int .i64 0, .string ⟨#[]⟩, .slice none 0 0, .slice none 0 0] 25) = U at HCU HEU oU z0 hU1 b2 ⊢
  refine (HD.out U g K i r dp B HCU.out hd0 hd1 HEU.out hgB HN.out).mono ?_
  rintro e w3 ⟨ho, hres⟩
  rcases hT : docR n false (dp + 1) (K.rest i r) i with ⟨c, q⟩ | ⟨v, m⟩
  · rw [hT] at hres
    obtain rfl := hres
    dsimp only [faultE]
    clear z0
    go_wp2_with fail
    try simp only [Exit.inBlock, Exit.then]
    exact ⟨rfl, .bad (by rw [val_doc, hT]) (oU.trans ho)⟩
  · rw [hT] at hres
    obtain ⟨⟨k5, n5, s5, la5, lc5, l5, da5, dc5, d5⟩, rfl, hv, hown, hc⟩ := hres
    dsimp only [T.arg, T.cells]
    have z3 := keep_row ho z0 (by simp; omega)
    have cz := row_cells z3
    have fz := rowf z3
    have HZ3 := Lib.hid z3
    have HC3 := Lib.hid hc
    have HO3 := Lib.hid (oU.trans ho)
    have HV := Lib.hid hv
    have HW := Lib.hid hown
    clear hc ho z0 oU hv hown z3
    go_wp2_with fail
    have cp := row_cells (put5row HZ3.out (.int .i64 k5) (.int .i64 n5) (.string s5) (.slice la5 l5.length lc5) (.slice da5 d5.length dc5))
    refine bodyPost_ret (v := .agg #[.int .i64 k5, .int .i64 n5, .string s5, .slice la5 l5.length lc5, .slice da5 d5.length dc5]) (by simp [results, Tryd.results63, go_sem, cp]) rfl ?_
    have oW := put5only w3 w.heap.size (.int .i64 k5) (.int .i64 n5) (.string s5) (.slice la5 l5.length lc5) (.slice da5 d5.length dc5)
    refine .ok (t := T.mk k5 n5 s5 la5 lc5 l5 da5 dc5 d5) (by rw [val_doc, hT]) HV.out (HW.out.keep oW (by simp; omega) (by omega)) (HC.out.past HC3.out oW (by simp)) ?_
    exact HO3.out.then_ oW (fun x hx => .inr (by simp at hx; omega))
set_option maxHeartbeats 4000000 in
theorem value_6 {g : Nat} {K : Byt} {i r : Nat} {dp : Int} (n : Nat) (hD : ListAt n) (w : World) (h : Cur w g K i r dp) (hd0 : 0 ≤ dp) (hd1 : dp ≤ 20) {B : Nat} (hE : Env2 w B) (hgB : B ≤ g) (hn : r - i + 2 ≤ n) : Calls Tryd.prog 63 #[.pointer (some ⟨g, 0, none⟩), .int .i64 6] w (ReadsT (valF (n + 1) 6 dp (K.rest i r) i) g K i r dp w) := by
  have HC := Lib.hid h
  have HE := Lib.hid hE
  have hg := lt_of_block h.row
  have HD := Lib.hid hD
  have HN := Lib.hid hn
  clear h hE hD hn
  go_enter Tryd.func63, Tryd.ntmps63
  go_wp2_with fail
  have b2 := below2 w (.cells #[.int .i64 0, .int .i64 0, .string ⟨#[]⟩, .slice none 0 0, .slice none 0 0] 25) (.cells #[.int .i64 6, .int .i64 0, .string ⟨#[]⟩, .slice none 0 0, .slice none 0 0] 25)
  have HCU := Lib.hid (HC.out.then_ b2)
  have HEU := Lib.hid (HE.out.then_ b2)
  have oU : Only [g] w ((w.alloc (.cells #[.int .i64 0, .int .i64 0, .string ⟨#[]⟩, .slice none 0 0, .slice none 0 0] 25)).alloc (.cells #[.int .i64 6, .int .i64 0, .string ⟨#[]⟩, .slice none 0 0, .slice none 0 0] 25)) := Only.of_below b2
  have z0 := heap_alloc2_old w (.cells #[.int .i64 0, .int .i64 0, .string ⟨#[]⟩, .slice none 0 0, .slice none 0 0] 25) (.cells #[.int .i64 6, .int .i64 0, .string ⟨#[]⟩, .slice none 0 0, .slice none 0 0] 25)
  have hU1 : w.heap.size < ((w.alloc (.cells #[.int .i64 0, .int .i64 0, .string ⟨#[]⟩, .slice none 0 0, .slice none 0 0] 25)).alloc (.cells #[.int .i64 6, .int .i64 0, .string ⟨#[]⟩, .slice none 0 0, .slice none 0 0] 25)).heap.size := lt_of_block z0
  generalize (w.alloc (.cells #[.int .i64 0, .int .i64 0, .string ⟨#[]⟩, .slice none 0 0, .slice none 0 0] 25)).alloc (.cells #[.int .i64 6, .int .i64 0, .string ⟨#[]⟩, .slice none 0 0, .slice none 0 0] 25) = U at HCU HEU oU z0 hU1 b2 ⊢
  refine (HD.out U g K i r dp B HCU.out hd0 hd1 HEU.out hgB HN.out).mono ?_
  rintro e w3 ⟨ho, hres⟩
  rcases hT : docR n true (dp + 1) (K.rest i r) i with ⟨c, q⟩ | ⟨v, m⟩
  · rw [hT] at hres
    obtain rfl := hres
    dsimp only [faultE]
    clear z0
    go_wp2_with fail
    try simp only [Exit.inBlock, Exit.then]
    exact ⟨rfl, .bad (by rw [val_list, hT]) (oU.trans ho)⟩
  · rw [hT] at hres
    obtain ⟨⟨k5, n5, s5, la5, lc5, l5, da5, dc5, d5⟩, rfl, hv, hown, hc⟩ := hres
    dsimp only [T.arg, T.cells]
    have z3 := keep_row ho z0 (by simp; omega)
    have cz := row_cells z3
    have fz := rowf z3
    have HZ3 := Lib.hid z3
    have HC3 := Lib.hid hc
    have HO3 := Lib.hid (oU.trans ho)
    have HV := Lib.hid hv
    have HW := Lib.hid hown
    clear hc ho z0 oU hv hown z3
    go_wp2_with fail
    have cp := row_cells (put5row HZ3.out (.int .i64 k5) (.int .i64 n5) (.string s5) (.slice la5 l5.length lc5) (.slice da5 d5.length dc5))
    refine bodyPost_ret (v := .agg #[.int .i64 k5, .int .i64 n5, .string s5, .slice la5 l5.length lc5, .slice da5 d5.length dc5]) (by simp [results, Tryd.results63, go_sem, cp]) rfl ?_
    have oW := put5only w3 w.heap.size (.int .i64 k5) (.int .i64 n5) (.string s5) (.slice la5 l5.length lc5) (.slice da5 d5.length dc5)
    refine .ok (t := T.mk k5 n5 s5 la5 lc5 l5 da5 dc5 d5) (by rw [val_list, hT]) HV.out (HW.out.keep oW (by simp; omega) (by omega)) (HC.out.past HC3.out oW (by simp)) ?_
    exact HO3.out.then_ oW (fun x hx => .inr (by simp at hx; omega))
theorem value_all (n : Nat) (hD : DocAt n) (hL : ListAt n) : ValAt (n + 1) := by
  intro w g K i r dp B k h hr k1 k11 d0 d1 hE hgB hn
  obtain rfl | rfl | rfl | rfl | rfl | rfl | rfl | rfl | rfl | rfl | rfl : k = 1 ∨ k = 2 ∨ k = 3 ∨ k = 4 ∨ k = 5 ∨ k = 6 ∨ k = 7 ∨ k = 8 ∨ k = 9 ∨ k = 10 ∨ k = 11 := by omega
  · exact value_1 n w h
  · exact value_2 n w h
  · exact value_3 n w h hr hE hgB
  · exact value_4 n w h hr hE hgB
  · exact value_5 n hD w h d0 d1 hE hgB (by omega)
  · exact value_6 n hL w h d0 d1 hE hgB (by omega)
  · exact value_7 n w h hr hE hgB
  · exact value_8 n w h hr hE hgB
  · exact value_9 n w h hr hE hgB
  · exact value_10 n w h hr hE hgB
  · exact value_11 n w h
end Go.Proofs.YtjfgmcmnpekahaaDoor
