/- The contracts of what Without calls: no statement is proved here. -/
import Derived.Test.YtkklnfihjikilaaDoorRefWithout
import Derived.Laws.IdiomCopy
namespace Go.Proofs.YtkklnfihjikilaaDoor
open Go.RowKit
set_option maxRecDepth 100000

theorem setCells_put (g : Nat) (vs : List Value) : ∀ (o : Nat) (w : World), w.setCells g o vs = putCells w g o vs := by
  induction vs with
  | nil => intro o w; rfl
  | cons v r ih => intro o w; exact ih (o + 1) _
def zeroField : Array Value := #[.string ⟨#[]⟩, .int .i64 0, .int .i64 0, .string ⟨#[]⟩, .slice none 0 0, .slice none 0 0]
theorem zeroField_one (k : Nat) : (zeroField[k % 6]!).oneCell' = true := by
  have h : k % 6 < 6 := Nat.mod_lt _ (by omega)
  generalize k % 6 = j at h
  match j, h with
  | 0, _ => rfl
  | 1, _ => rfl
  | 2, _ => rfl
  | 3, _ => rfl
  | 4, _ => rfl
  | 5, _ => rfl
/-- The cells of a row behind the first i elements are cleared. -/
theorem run_clear_own {w : World} {B g n cap i : Nat} {xs : List Value} (h : w.ownsRow B 52 6 (.slice (some ⟨g, 0, none⟩) n cap) n xs) (hi : i < n) :
    ∃ vs : List Value, vs.length = (n - i) * 6 ∧ ∀ ty : TypeId, ∀ c, (Builtin.clear_ #[29] ty #[.slice (some ⟨g, i * 6, none⟩) (n - i) c]).run Tryd.prog w = .ok (.tuple #[]) (putCells w g (i * 6) vs) := by
  have hsz : n * 6 ≤ cap * 6 := by
    obtain ⟨_, h2⟩ := h
    rcases h2 with ⟨hv, _⟩ | ⟨g', cap', cur, hv, hb, hg, hkc, _⟩
    · cases hv
    · injection hv with _ _ e3; omega
  have hlen : (Builtin.zeroCells zeroField (n - i)).toList.length = (n - i) * 6 := by simp [Builtin.zeroCells, zeroField]
  refine ⟨(Builtin.zeroCells zeroField (n - i)).toList, hlen, fun ty c => ?_⟩
  have hst := run_storeCells_cells (P := Tryd.prog) g (i * 6) (Builtin.zeroCells zeroField (n - i)).toList 0 w
    (fun j hj => by rw [hlen] at hj; obtain ⟨⟨v, hv⟩, -⟩ := own_room h (j := i * 6 + 0 + j) (by omega); rw [hv]; rfl)
    (fun j hj => by rw [hlen] at hj; exact (own_room h (j := i * 6 + 0 + j) (by omega)).2)
    (fun v hv => by
      simp only [Builtin.zeroCells, Array.toList_map, List.mem_map] at hv
      obtain ⟨k, -, rfl⟩ := hv
      exact zeroField_one k)
  rw [Nat.add_zero, setCells_put] at hst
  obtain ⟨m, hm⟩ : ∃ m, n - i = m + 1 := ⟨n - i - 1, by omega⟩
  rw [hm] at hst ⊢
  have hz : (Value.agg #[.string ⟨#[]⟩, .int .i64 0, .int .i64 0, .string ⟨#[]⟩, .slice none 0 0, .slice none 0 0]).cells = zeroField := rfl
  simp [Builtin.clear_, run_underlying Tryd.underlying29, hz, hst]

/-- The first elements of a row. -/
theorem own_cut {w : World} {B : Nat} {e : TypeId} {c n k cap g : Nat} {xs ys : List Value} (h : w.ownsRow B e c (.slice (some ⟨g, 0, none⟩) n cap) n (xs ++ ys)) (hk : k ≤ n) (hx : xs.length = k * c) : w.ownsRow B e c (.slice (some ⟨g, 0, none⟩) k cap) k xs := by
  obtain ⟨h1, h2⟩ := h
  rcases h2 with ⟨hv, _⟩ | ⟨g', cap', cur, hv, hb, hg, hkc, hm, hs, ht⟩
  · cases hv
  · injection hv with e1 e2 e3
    injection e1 with e1
    injection e1 with e1
    subst e1 e3
    refine ⟨hx, .inr ⟨g, cap, cur, rfl, hb, hg, by omega, hm, hs, ?_⟩⟩
    have hle := Nat.mul_le_mul_right c hk
    have h3 : (cur.toList.take (n * c)).take (k * c) = (xs ++ ys).take (k * c) := by rw [ht]
    rw [List.take_take, Nat.min_eq_left hle] at h3
    rw [h3, ← hx, List.take_left]

theorem named2_any (f : ByteArray × T) (q : Addr) (s : ByteArray) (w : World) (hq : w.cell? q = some (.string s)) :
    Calls Tryd.prog 77 #[farg f, .pointer (some q)] w fun e w' => e = .returned (.bool (f.1.toList == s.toList)) ∧ Below w.heap.size w w' := by
  obtain ⟨fx, kx, nx, sx, lax, lcx, lx, dax, dcx, dx⟩ := f
  show Calls _ _ #[.agg #[.string fx, .int .i64 kx, .int .i64 nx, .string sx, .slice lax lx.length lcx, .slice dax dx.length dcx], .pointer (some q)] _ _
  have hlt := cell_lt hq
  have hq2 : ∀ o, (w.alloc o).cell? q = some (.string s) := fun o => ((below1 w o).cell hlt).trans hq
  go_enter Tryd.func77, Tryd.ntmps77
  go_wp2_with fail
  go_ret
  exact ⟨rfl, below1 _ _⟩

theorem named2_is (b : Bool) (f : ByteArray) (kx nx : Int) (sx : ByteArray) (lax : Option Addr) (lcx : Nat) (lx : List T) (dax : Option Addr) (dcx : Nat) (dx : List (ByteArray × T)) (q : Addr) (s : ByteArray) (w : World) (hb : (f.toList == s.toList) = b) (hq : w.cell? q = some (.string s)) :
    Calls Tryd.prog 77 #[.agg #[.string f, .int .i64 kx, .int .i64 nx, .string sx, .slice lax lx.length lcx, .slice dax dx.length dcx], .pointer (some q)] w fun e w' => e = .returned (.bool b) ∧ Below w.heap.size w w' :=
  (named2_any (f, .mk kx nx sx lax lcx lx dax dcx dx) q s w hq).mono fun e w' h => ⟨by rw [h.1]; simp only [hb], h.2⟩
set_option maxHeartbeats 1000000 in
theorem indexFunc2_any (la : Option Addr) (ca : Nat) (l : List (ByteArray × T)) (q : Addr) (s : ByteArray) (w : World) (hq : w.cell? q = some (.string s)) (ha : InD w la l) (hl : l.length ≤ 1759218604390) :
    Calls Tryd.prog 60 #[.slice la l.length ca, .func (.func 77) #[] #[.pointer (some q)]] w fun e w' => e = .returned (.int .i64 (idxD (l.map fun f => (f.1, f.2.val)) s 0)) ∧ Below w.heap.size w w' := by
  go_enter Tryd.func60, Tryd.ntmps60
  go_wp2_with fail
  go_loopw [5, 8] (fun _ i wr => ∃ k : Nat, k ≤ l.length ∧ i = .int .i64 k ∧ Below w.heap.size w wr ∧ idxD (l.map fun f => (f.1, f.2.val)) s 0 = idxD ((l.map fun f => (f.1, f.2.val)).drop k) s k) (fun _ i _ => l.length - (intOf i).toNat)
  case atStart => exact ⟨0, by omega, rfl, Below.refl _ _, by simp⟩
  case round =>
    obtain ⟨k, hk, rfl, hbel, heq⟩ := hrel
    have HH := Lib.hid heq
    clear heq
    by_cases h1 : k < l.length
    · obtain ⟨b, o, fx, kx, nx, sx, lax, lcx, lx, dax, dcx, dx, rfl, hx, hix, x0, x1, x2, x3, x4, x5⟩ := (ha.then_ hbel).six h1
      have hx2 : (l.map fun f => (f.1, f.2.val))[k]? = some (fx, (T.mk kx nx sx lax lcx lx dax dcx dx).val) := by rw [List.getElem?_map, hx]; rfl
      have HT := Lib.hid (idxD_step (s := s) hx2)
      have hq1 : wr.cell? q = some (.string s) := (hbel.cell (cell_lt hq)).trans hq
      have HN := fun w h => named2_any (fx, T.mk kx nx sx lax lcx lx dax dcx dx) q s w h
      replace HN := Lib.hid HN
      clear hx hx2 ha
      go_wp2_with (go_at_call 77; refine (HN.out _ hq1).mono ?_; rintro e w1 ⟨rfl, hb1⟩)
      · go_ret
        have ht := ‹(_ == _) = true›
        exact ⟨ret_int (by rw [HH.out, HT.out, if_pos ht]), below_then hbel hb1⟩
      · have ht := ‹(_ == _) = false›
        go_roundw
        case rel => exact ⟨k + 1, by omega, by go_num, below_then hbel hb1, by rw [HH.out, HT.out, if_neg (by simp [ht])]⟩
        case measure => simp [intOf]; omega
    · go_wp2_with fail
      go_ret
      exact ⟨ret_int (by rw [HH.out, idxD_done (by simp; omega)]), hbel⟩

/-- Where the first field of that name stands, and what the filter makes of what stands ahead. -/
theorem idxD_split (d : List (ByteArray × T)) (s : ByteArray) : ∀ m : Nat, (idxD (d.map fun f => (f.1, f.2.val)) s m = -1 ∧ d.filter (fun f => other s f.1) = d) ∨
    ∃ (i : Nat) (x : ByteArray × T), idxD (d.map fun f => (f.1, f.2.val)) s m = ((m + i : Nat) : Int) ∧ d[i]? = some x ∧ other s x.1 = false ∧ (d.take i).filter (fun f => other s f.1) = d.take i := by
  induction d with
  | nil => intro m; exact .inl ⟨rfl, rfl⟩
  | cons y r ih =>
    intro m
    obtain ⟨f, x⟩ := y
    simp only [List.map_cons, idxD]
    by_cases h : (f.toList == s.toList) = true
    · exact .inr ⟨0, (f, x), by rw [if_pos h]; rfl, rfl, by simp only [other, h, Bool.not_true], rfl⟩
    · have h' : (f.toList == s.toList) = false := by simpa using h
      have ho : other s f = true := by simp only [other, h', Bool.not_false]
      rw [if_neg h]
      rcases ih (m + 1) with ⟨h1, h2⟩ | ⟨i, z, h1, h2, h3, h4⟩
      · exact .inl ⟨h1, by rw [List.filter_cons, if_pos ho, h2]⟩
      · exact .inr ⟨i + 1, z, by rw [h1]; omega, by simpa using h2, h3, by rw [List.take_succ_cons, List.filter_cons, if_pos ho, h4]⟩

/-- What DeleteFunc has done ahead of field j. -/
structure DelRel (w wr : World) (B g ca : Nat) (q : Addr) (s : ByteArray) (l : List (ByteArray × T)) (j : Nat) (fs : List (ByteArray × T)) : Prop where
  eq : fs = (l.take j).filter fun f => other s f.1
  lt : fs.length < j
  only : Only [g] w wr
  name : wr.cell? q = some (.string s)
  row : ∃ mid : List Value, mid.length = (j - fs.length) * 6 ∧ wr.ownsRow B 52 6 (.slice (some ⟨g, 0, none⟩) l.length ca) l.length (fs.flatMap fcells ++ mid ++ (l.drop j).flatMap fcells)
theorem DelRel.below {w wr w' : World} {B g ca : Nat} {q : Addr} {s : ByteArray} {l : List (ByteArray × T)} {j : Nat} {fs : List (ByteArray × T)} (h : DelRel w wr B g ca q s l j fs) (hb : Below wr.heap.size wr w') : DelRel w w' B g ca q s l j fs :=
  ⟨h.eq, h.lt, h.only.trans (Only.of_below hb), (hb.cell (cell_lt h.name)).trans h.name, h.row.imp fun _ h => ⟨h.1, row_keep h.2 hb⟩⟩
theorem DelRel.six {w wr : World} {B g ca : Nat} {q : Addr} {s : ByteArray} {l : List (ByteArray × T)} {j : Nat} {fs : List (ByteArray × T)} (h : DelRel w wr B g ca q s l j fs) (hj : j < l.length) :
    ∃ f1 k1 n1 s1 la1 lc1 l1 da1 dc1 d1, l[j]? = some (f1, .mk k1 n1 s1 la1 lc1 l1 da1 dc1 d1) ∧
      wr.cell? ⟨g, j * 6, none⟩ = some (.string f1) ∧ wr.cell? ⟨g, j * 6 + 1, none⟩ = some (.int .i64 k1) ∧ wr.cell? ⟨g, j * 6 + 2, none⟩ = some (.int .i64 n1) ∧ wr.cell? ⟨g, j * 6 + 3, none⟩ = some (.string s1) ∧
      wr.cell? ⟨g, j * 6 + 4, none⟩ = some (.slice la1 l1.length lc1) ∧ wr.cell? ⟨g, j * 6 + 5, none⟩ = some (.slice da1 d1.length dc1) := by
  obtain ⟨mid, hm, hrow⟩ := h.row
  have hlt := h.lt
  have hx : l[j]? = some l[j] := List.getElem?_eq_getElem hj
  have hc : ∀ i u, (fcells (l[j]))[i]? = some u → wr.cell? ⟨g, j * 6 + i, none⟩ = some u := by
    intro i u hu
    have hi := lt_of_get hu
    rw [fcells_len] at hi
    have hl : (fs.flatMap fcells ++ mid).length = j * 6 := by rw [List.length_append, fflat_len, hm]; omega
    rw [hrow.cellAt (j * 6 + i) (by omega), List.getElem?_append_right (by rw [hl]; omega), hl, show j * 6 + i - j * 6 = 0 * 6 + i by omega]
    exact (flatMap_getD fcells 6 fcells_len _ 0 (l[j]) (by rw [List.drop_eq_getElem_cons hj]; rfl) i hi).trans hu
  revert hc hx
  obtain ⟨f1, k1, n1, s1, la1, lc1, l1, da1, dc1, d1⟩ := l[j]
  intro hx hc
  exact ⟨f1, k1, n1, s1, la1, lc1, l1, da1, dc1, d1, hx, hc 0 _ rfl, hc 1 _ rfl, hc 2 _ rfl, hc 3 _ rfl, hc 4 _ rfl, hc 5 _ rfl⟩
theorem del_skip {w wr : World} {B g ca : Nat} {q : Addr} {s : ByteArray} {l : List (ByteArray × T)} {j : Nat} {fs : List (ByteArray × T)} {x : ByteArray × T} (h : DelRel w wr B g ca q s l j fs) (hx : l[j]? = some x) (ho : other s x.1 = false) : DelRel w wr B g ca q s l (j + 1) fs := by
  obtain ⟨h1, h2, h3, h4, mid, h5, h6⟩ := h
  refine ⟨by rw [filter_no hx ho]; exact h1, by omega, h3, h4, mid ++ fcells x, ?_, ?_⟩
  · rw [List.length_append, h5, fcells_len, show j + 1 - fs.length = (j - fs.length) + 1 by omega, Nat.succ_mul]
  · obtain ⟨hj, rfl⟩ := List.getElem?_eq_some_iff.1 hx
    rw [List.drop_eq_getElem_cons hj, List.flatMap_cons] at h6
    rw [show fs.flatMap fcells ++ (mid ++ fcells l[j]) ++ (l.drop (j + 1)).flatMap fcells = fs.flatMap fcells ++ mid ++ (fcells l[j] ++ (l.drop (j + 1)).flatMap fcells) by simp only [List.append_assoc]]
    exact h6
theorem del_keep {w wr : World} {B g ca : Nat} {q : Addr} {s : ByteArray} {l : List (ByteArray × T)} {j : Nat} {fs : List (ByteArray × T)} {x : ByteArray × T} (h : DelRel w wr B g ca q s l j fs) (hx : l[j]? = some x) (ho : other s x.1 = true) (hq : q.block ≠ g) :
    DelRel w (putCells wr g (fs.length * 6) (fcells x)) B g ca q s l (j + 1) (fs ++ [x]) := by
  obtain ⟨h1, h2, h3, h4, mid, h5, h6⟩ := h
  obtain ⟨hj, rfl⟩ := List.getElem?_eq_some_iff.1 hx
  rw [List.drop_eq_getElem_cons hj, List.flatMap_cons] at h6
  have hZ : (mid ++ fcells l[j]).length = (j - fs.length) * 6 + 6 := by rw [List.length_append, h5, fcells_len]
  have e1 : fs.flatMap fcells ++ mid ++ (fcells l[j] ++ (l.drop (j + 1)).flatMap fcells) = fs.flatMap fcells ++ (mid ++ fcells l[j]).take 6 ++ ((mid ++ fcells l[j]).drop 6 ++ (l.drop (j + 1)).flatMap fcells) := by
    rw [List.append_assoc, ← List.append_assoc mid, List.append_assoc (fs.flatMap fcells), ← List.append_assoc ((mid ++ fcells l[j]).take 6), List.take_append_drop]
  rw [e1] at h6
  have h7 := own_mid (us := fcells l[j]) h6 (by rw [fcells_len, List.length_take, hZ]; omega)
  rw [fflat_len] at h7
  refine ⟨by rw [filter_yes hx ho, ← h1], by simp; omega, h3.trans (put_only _ _ _ _), ?_, (mid ++ fcells l[j]).drop 6, ?_, ?_⟩
  · rw [World.cell?_of_block (put_other _ _ _ _ _ hq)]; exact h4
  · rw [List.length_drop, hZ, List.length_append, List.length_singleton]; omega
  · rw [List.flatMap_append, List.flatMap_cons, List.flatMap_nil, List.append_nil, List.append_assoc]
    rw [List.append_assoc] at h7
    rw [List.append_assoc]
    exact h7

def DeletesTo (B : Nat) (la : Option Addr) (ca : Nat) (l : List (ByteArray × T)) (s : ByteArray) (w : World) (e : Ending) (w' : World) : Prop :=
  ∃ fs : List (ByteArray × T), fs = l.filter (fun f => other s f.1) ∧ e = .returned (.slice la fs.length ca) ∧ w'.ownsRow B 52 6 (.slice la fs.length ca) fs.length (fs.flatMap fcells) ∧ Only (Value.slice la l.length ca).ownBlock.toList w w'

set_option maxHeartbeats 4000000 in
theorem deleteFunc_any (B : Nat) (la : Option Addr) (ca : Nat) (l : List (ByteArray × T)) (q : Addr) (s : ByteArray) (w : World) (hq : w.cell? q = some (.string s)) (hn : ∀ g, la = some ⟨g, 0, none⟩ → q.block ≠ g) (ha : InD w la l) (hl : l.length ≤ 1466015503701) (hca : l.length ≤ ca ∧ ca ≤ 9223372036854775807)
    (hrow : w.ownsRow B 52 6 (.slice la l.length ca) l.length (l.flatMap fcells)) :
    Calls Tryd.prog 76 #[.slice la l.length ca, .func (.func 77) #[] #[.pointer (some q)]] w (DeletesTo B la ca l s w) := by
  have HI := Lib.hid (indexFunc2_any la ca l q s w hq ha (by omega))
  rcases idxD_split l s 0 with ⟨h1, h2⟩ | ⟨i, x, h1, h2, h3, h4⟩
  · rw [h1] at HI
    have H2 := Lib.hid h2
    have HR := Lib.hid hrow
    clear h1 h2 ha hrow hn hq
    go_enter Tryd.func76, Tryd.ntmps76
    go_wp2_with fail
    refine HI.out.mono ?_
    rintro e w1 ⟨rfl, b1⟩
    have HB := Lib.hid b1
    clear b1
    go_wp2_with fail
    go_ret
    exact ⟨l, H2.out.symm, rfl, row_keep HR.out HB.out, Only.of_below HB.out⟩
  · obtain ⟨hi, -⟩ := List.getElem?_eq_some_iff.1 h2
    obtain ⟨g, rfl⟩ : ∃ g, la = some ⟨g, 0, none⟩ := by
      obtain ⟨m, hm⟩ : ∃ m, l.length = m + 1 := ⟨l.length - 1, by omega⟩
      rw [hm] at hrow
      obtain ⟨g, hg, -⟩ := own_live hrow
      exact ⟨g, hg⟩
    rw [Nat.zero_add] at h1
    rw [h1] at HI
    have hti : (l.take i).length = i := by simp; omega
    have HD : DelRel w w B g ca q s l (i + 1) (l.take i) := by
      refine ⟨by rw [filter_no h2 h3, h4], by omega, Only.refl _ _, hq, fcells x, by rw [fcells_len, hti]; omega, ?_⟩
      have e1 : (l.take i).flatMap fcells ++ fcells x ++ (l.drop (i + 1)).flatMap fcells = l.flatMap fcells := by
        obtain ⟨hj, rfl⟩ := List.getElem?_eq_some_iff.1 h2
        rw [List.append_assoc, ← List.flatMap_cons, ← List.drop_eq_getElem_cons hj, ← List.flatMap_append, List.take_append_drop]
      rw [e1]; exact hrow
    replace HD := Lib.hid HD
    replace hn := hn g rfl
    have HTI := Lib.hid hti
    have hneb : ((i : Int) == -1) = false := by simp
    clear h1 h2 h3 h4 ha hrow hq hti
    go_enter Tryd.func76, Tryd.ntmps76
    go_wp2_with fail
    refine HI.out.mono ?_
    rintro e w1 ⟨rfl, b1⟩
    replace HD := Lib.hid (HD.out.below b1)
    clear b1 HI
    go_wp2_with fail
    go_loopw [5, 6, 7] (fun si sj _ wr => ∃ (j : Nat) (fs : List (ByteArray × T)), j ≤ l.length ∧ si = .int .i64 (fs.length : Int) ∧ sj = .int .i64 j ∧ DelRel w wr B g ca q s l j fs) (fun _ sj _ _ => l.length - (intOf sj).toNat)
    case atStart => exact ⟨i + 1, l.take i, by omega, by rw [HTI.out], by go_num, HD.out⟩
    case round =>
      clear HD
      obtain ⟨j, fs, hj, rfl, rfl, R⟩ := hrel
      have HR := Lib.hid R
      have hlt := R.lt
      clear R
      by_cases h1 : j < l.length
      · obtain ⟨f1, k1, n1, s1, la1, lc1, l1, da1, dc1, d1, hx, x0, x1, x2, x3, x4, x5⟩ := HR.out.six h1
        have HX := Lib.hid hx
        have hqw := Lib.hid HR.out.name
        clear hx
        by_cases ht : (f1.toList == s.toList) = true
        · have HT := Lib.hid (show other s f1 = false by simp only [other, ht, Bool.not_true])
          have HN := Lib.hid (fun w h => named2_is true f1 k1 n1 s1 la1 lc1 l1 da1 dc1 d1 q s w ht h)
          clear ht
          go_wp2_with fail
          refine (HN.out _ (((below1 _ _).cell (cell_lt hqw.out)).trans hqw.out)).mono ?_
          rintro e w2 ⟨rfl, b2⟩
          have HB := Lib.hid (below_then (below1 _ _) b2)
          clear b2 x0 x1 x2 x3 x4 x5
          go_wp2_with fail
          go_roundw
          case rel => exact ⟨j + 1, fs, by omega, rfl, by go_num, (del_skip HR.out HX.out HT.out).below HB.out⟩
          case measure => simp [intOf]; omega
        · have htf : (f1.toList == s.toList) = false := by simpa using ht
          have HT := Lib.hid (show other s f1 = true by simp only [other, htf, Bool.not_false])
          have HN := Lib.hid (fun w h => named2_is false f1 k1 n1 s1 la1 lc1 l1 da1 dc1 d1 q s w htf h)
          clear ht htf
          go_wp2_with fail
          refine (HN.out _ (((below1 _ _).cell (cell_lt hqw.out)).trans hqw.out)).mono ?_
          rintro e w2 ⟨rfl, b2⟩
          have HB := Lib.hid (below_then (below1 _ _) b2)
          have HRow := Lib.hid (HR.out.below HB.out).row
          have bv : ∀ o, w2.cell? ⟨wr.heap.size, o, none⟩ = (#[.string f1, .int .i64 k1, .int .i64 n1, .string s1, .slice la1 l1.length lc1, .slice da1 d1.length dc1] : Array Value)[o]? := row_cells (row_then (heap_alloc_new _ _) b2)
          obtain ⟨mid, -, hrow2⟩ := HRow.out
          obtain ⟨⟨v0, c0⟩, f0'⟩ := own_room hrow2 (j := fs.length * 6) (by omega)
          obtain ⟨⟨v1, c1⟩, f1'⟩ := own_room hrow2 (j := fs.length * 6 + 1) (by omega)
          obtain ⟨⟨v2, c2⟩, f2'⟩ := own_room hrow2 (j := fs.length * 6 + 2) (by omega)
          obtain ⟨⟨v3, c3⟩, f3'⟩ := own_room hrow2 (j := fs.length * 6 + 3) (by omega)
          obtain ⟨⟨v4, c4⟩, f4'⟩ := own_room hrow2 (j := fs.length * 6 + 4) (by omega)
          obtain ⟨⟨v5, c5⟩, f5'⟩ := own_room hrow2 (j := fs.length * 6 + 5) (by omega)
          have HS := del_keep (HR.out.below HB.out) HX.out HT.out hn
          rw [fcells, T.cells, put6] at HS
          replace HS := Lib.hid HS
          clear b2 x0 x1 x2 x3 x4 x5 hrow2
          go_wp2_with fail
          go_roundw
          case rel => exact ⟨j + 1, fs ++ [(f1, .mk k1 n1 s1 la1 lc1 l1 da1 dc1 d1)], by omega, by simp, by go_num, HS.out⟩
          case measure => simp [intOf]; omega
      · have hjl : j = l.length := by omega
        subst hjl
        obtain ⟨mid, hm, hrow⟩ := HR.out.row
        obtain ⟨vs, hvs, hcl⟩ := run_clear_own hrow hlt
        have HF := Lib.hid (show fs = l.filter (fun f => other s f.1) by have := HR.out.eq; rw [List.take_of_length_le (Nat.le_refl _)] at this; exact this)
        have HO := Lib.hid HR.out.only
        have HRow := Lib.hid (And.intro hm (And.intro hvs hrow))
        have hle : fs.length ≤ l.length := by omega
        clear hm hvs hrow
        go_wp2_with fail
        go_ret
        obtain ⟨hm, hvs, hrow⟩ := HRow.out
        have h7 := own_mid (us := vs) hrow (by rw [hvs, hm])
        rw [fflat_len, List.append_assoc] at h7
        exact ⟨fs, HF.out, rfl, own_cut h7 hle (fflat_len _), (HO.out.trans (put_only _ _ _ _)).mono (by simp [Value.ownBlock])⟩
end Go.Proofs.YtkklnfihjikilaaDoor
