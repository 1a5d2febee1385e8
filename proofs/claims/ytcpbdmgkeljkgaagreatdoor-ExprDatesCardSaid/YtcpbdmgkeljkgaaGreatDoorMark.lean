/- Plain words for values that the law lent: with marks behind their lists and fields. No statement is proved here. -/
import Derived.Test.YtcpbdmgkeljkgaaGreatDoorClone
import Derived.Deep.AppendLies
namespace Go.Proofs.YtcpbdmgkeljkgaaGreatDoor
open Go.RowKit
set_option maxRecDepth 100000

def markText : ByteArray := ⟨#[109, 97, 114, 107]⟩
def markV : List Value := [.int .i64 (-7), .int .i64 0, .string ⟨#[]⟩, .slice none 0 0, .slice none 0 0]
def markD : List Value := [.string markText, .int .i64 0, .int .i64 0, .string ⟨#[]⟩, .slice none 0 0, .slice none 0 0]
def lrow (a : Option Addr) (c : Nat) (l : List T) : Row := ⟨28, 5, .slice a (l.length + 1) c, l.length + 1, l.flatMap T.cells ++ markV⟩
def drow (a : Option Addr) (c : Nat) (d : List (ByteArray × T)) : Row := ⟨44, 6, .slice a (d.length + 1) c, d.length + 1, d.flatMap fcells ++ markD⟩
mutual
/-- The rows that a lent value lies in, with the marks. -/
def T.mrows : T → List Row
  | .mk _ _ _ la lc l da dc d => lrow la lc l :: drow da dc d :: (T.mrowsL l ++ T.mrowsD d)
def T.mrowsL : List T → List Row
  | [] => []
  | x :: r => x.mrows ++ T.mrowsL r
def T.mrowsD : List (ByteArray × T) → List Row
  | [] => []
  | (_, x) :: r => x.mrows ++ T.mrowsD r
end
theorem T.mrowsL_eq (l : List T) : T.mrowsL l = l.flatMap T.mrows := by induction l with
  | nil => rfl
  | cons x r ih => simp [T.mrowsL, ih]
theorem T.mrowsD_eq (l : List (ByteArray × T)) : T.mrowsD l = l.flatMap fun f => f.2.mrows := by induction l with
  | nil => rfl
  | cons x r ih => obtain ⟨s, x⟩ := x; simp [T.mrowsD, ih]

/-- What a row owns, its first elements own. -/
theorem own_prefix {w : World} {B : Nat} {e : TypeId} {c n cap : Nat} {a : Option Addr} {xs ys : List Value} (h : w.ownsRow B e c (.slice a (n + 1) cap) (n + 1) (xs ++ ys)) (hx : xs.length = n * c) : w.ownsRow B e c (.slice a n cap) n xs := by
  obtain ⟨h1, h2⟩ := h
  refine ⟨hx, ?_⟩
  rcases h2 with ⟨hv, _⟩ | ⟨g, cap', cur, hv, hb, hg, hkc, hm, hs, ht⟩
  · cases hv
  · injection hv with e1 e2 e3
    subst e1 e3
    refine .inr ⟨g, cap, cur, rfl, hb, hg, by omega, hm, hs, ?_⟩
    have h2 : (cur.toList.take ((n + 1) * c)).take (n * c) = (xs ++ ys).take (n * c) := by rw [ht]
    rw [List.take_take, Nat.min_eq_left (Nat.mul_le_mul_right c (by omega)), ← hx, List.take_left] at h2
    rw [← hx]
    exact h2
theorem flat_len (l : List T) : (l.flatMap T.cells).length = l.length * 5 := by induction l with
  | nil => rfl
  | cons x r ih => simp [ih, cells_len, Nat.add_mul]; omega
theorem fflat_len (l : List (ByteArray × T)) : (l.flatMap fcells).length = l.length * 6 := by induction l with
  | nil => rfl
  | cons x r ih => simp [ih, fcells_len, Nat.add_mul]; omega

theorem mrows_rows {w : World} {B : Nat} (t : T) : Owns w B t.mrows → Owns w B t.rows := by
  induction t using T.ind with
  | h k n s la lc l da dc d ihl ihd =>
  intro h
  simp only [T.mrows, T.mrowsL_eq, T.mrowsD_eq] at h
  intro r hr
  simp only [T.rows, T.rowsL_eq, T.rowsD_eq] at hr
  rcases List.mem_cons.1 hr with rfl | hr
  · exact own_prefix (h _ (List.mem_cons_self ..)) (flat_len _)
  rcases List.mem_cons.1 hr with rfl | hr
  · exact own_prefix (h _ (List.mem_cons_of_mem _ (List.mem_cons_self ..))) (fflat_len _)
  have h2 := h.tail.tail
  rcases List.mem_append.1 hr with hr | hr
  · obtain ⟨x, hx, hr⟩ := List.mem_flatMap.1 hr
    exact ihl x hx (fun r hr => h2 r (List.mem_append.2 (.inl (List.mem_flatMap.2 ⟨x, hx, hr⟩)))) r hr
  · obtain ⟨x, hx, hr⟩ := List.mem_flatMap.1 hr
    exact ihd x hx (fun r hr => h2 r (List.mem_append.2 (.inr (List.mem_flatMap.2 ⟨x, hx, hr⟩)))) r hr

/-- A value that the law lent. -/
structure T.Marked (w : World) (B : Nat) (t : T) : Prop where
  ok : t.ok
  owns : Owns w B t.mrows
  nodup : (blocksOf t.mrows).Nodup
theorem T.Marked.in_ {w : World} {B : Nat} {t : T} (h : t.Marked w B) : t.In w := owns_in t (mrows_rows t h.owns)
theorem T.Marked.keep {w w' : World} {B B' : Nat} {t : T} {S : List Nat} (h : t.Marked w B) (ho : Only S w w') (hS : ∀ b ∈ blocksOf t.mrows, b ∉ S) (hB : B' ≤ B) : t.Marked w' B' :=
  ⟨h.ok, (h.owns.only ho hS).base hB, h.nodup⟩
theorem T.Marked.below {w w' : World} {B : Nat} {t : T} (h : t.Marked w B) (hb : Below w.heap.size w w') : t.Marked w' B := ⟨h.ok, h.owns.below hb, h.nodup⟩
theorem Only.of_grown {w w' : World} {g : Nat} (h : w.grownBy w' (some g)) : Only [g] w w' := ⟨h.os, h.tape, h.output, h.size, fun k hk hn => h.block k hk (fun e => hn (by injection e with e; simp [e]))⟩

/-- What Lent has made when k elements and j fields are copied: boxes at w's end, the list's row, the fields' row. -/
structure LentRel (t : T) (w wr : World) (k j : Nat) (ts : List T) (fs : List (ByteArray × T)) : Prop where
  tl : ts.length = k
  fl : fs.length = j
  tv : ts.map T.val = (match t with | .mk _ _ _ _ _ l _ _ _ => (l.map T.val).take k)
  fv : (fs.map fun f => (f.1, f.2.val)) = (match t with | .mk _ _ _ _ _ _ _ _ d => (d.map fun f => (f.1, f.2.val)).take j)
  tok : ∀ x ∈ ts, x.ok
  fok : ∀ f ∈ fs, okLen f.1.size ∧ f.2.ok
  row1 : wr.ownsRow w.heap.size 28 5 (.slice (some ⟨w.heap.size + 3, 0, none⟩) k (match t with | .mk _ _ _ _ _ l _ _ _ => l.length + 1)) k (ts.flatMap T.cells)
  row2 : wr.ownsRow w.heap.size 44 6 (.slice (some ⟨w.heap.size + 4, 0, none⟩) j (match t with | .mk _ _ _ _ _ _ _ _ d => d.length + 1)) j (fs.flatMap fcells)
  kids : Owns wr (w.heap.size + 5) (ts.flatMap T.mrows ++ fs.flatMap fun f => f.2.mrows)
  nodup : (blocksOf (ts.flatMap T.mrows ++ fs.flatMap fun f => f.2.mrows)).Nodup
  below : Below w.heap.size w wr
  size : w.heap.size + 5 ≤ wr.heap.size
  box1 : wr.heap[w.heap.size]? = some (.cells t.cells.toArray 28 (0, 0))
  box2 : wr.heap[w.heap.size + 1]? = some (.cells #[.int .i64 0, .int .i64 0, .string ⟨#[]⟩, .slice none 0 0, .slice none 0 0] 28 (0, 0))
  box3 : wr.heap[w.heap.size + 2]? = some (.cells (match t with | .mk kx nx sx _ _ l _ _ d => #[.int .i64 kx, .int .i64 nx, .string sx, .slice (some ⟨w.heap.size + 3, 0, none⟩) k (l.length + 1), .slice (some ⟨w.heap.size + 4, 0, none⟩) j (d.length + 1)]) 28 (0, 0))

theorem keep_row {w w' : World} {S : List Nat} (h : Only S w w') {g : Nat} {o : Obj} (hg : w.heap[g]? = some o) (hn : g ∉ S) : w'.heap[g]? = some o := (h.block g (lt_of_block hg) hn).trans hg
theorem keep_own {w w' : World} {S : List Nat} {B : Nat} {e : TypeId} {c g n m cap : Nat} {xs : List Value} (h : w.ownsRow B e c (.slice (some ⟨g, 0, none⟩) m cap) n xs) (ho : Only S w w') (hn : g ∉ S) : w'.ownsRow B e c (.slice (some ⟨g, 0, none⟩) m cap) n xs := by
  have h1 : Owns w B [⟨e, c, .slice (some ⟨g, 0, none⟩) m cap, n, xs⟩] := by intro r hr; simp at hr; subst hr; exact h
  exact h1.only ho (by simp [blocksOf, Value.ownBlock]; exact hn) ⟨e, c, .slice (some ⟨g, 0, none⟩) m cap, n, xs⟩ (by simp)

/-- One element more. -/
theorem lent_stepL {kx nx : Int} {sx : ByteArray} {la : Option Addr} {lc : Nat} {l : List T} {da : Option Addr} {dc : Nat} {d : List (ByteArray × T)} {w wr w1 w2 : World} {k j B : Nat} {ts : List T} {fs : List (ByteArray × T)} {x t' : T}
    (R : LentRel (.mk kx nx sx la lc l da dc d) w wr k j ts fs) (hx : l[k]? = some x) (hb : Below wr.heap.size wr w1) (hm : t'.Marked w1 B) (hB : wr.heap.size ≤ B) (hv : t'.val = x.val)
    (h12 : Only [w.heap.size + 3] w1 w2) (hrow : w2.ownsRow w.heap.size 28 5 (.slice (some ⟨w.heap.size + 3, 0, none⟩) (k + 1) (l.length + 1)) (k + 1) (ts.flatMap T.cells ++ t'.cells)) :
    LentRel (.mk kx nx sx la lc l da dc d) w (w2.setCell ⟨w.heap.size + 2, 3, none⟩ (.slice (some ⟨w.heap.size + 3, 0, none⟩) (k + 1) (l.length + 1))) (k + 1) j (ts ++ [t']) fs := by
  obtain ⟨tl, fl, tv, fv, tok, fok, row1, row2, kids, nodup, below, size, box1, box2, box3⟩ := R
  have h02 : Only [w.heap.size + 3] wr w2 := (Only.of_below (S := [w.heap.size + 3]) hb).trans h12
  have h03 : Only [w.heap.size + 3, w.heap.size + 2] wr (w2.setCell ⟨w.heap.size + 2, 3, none⟩ (.slice (some ⟨w.heap.size + 3, 0, none⟩) (k + 1) (l.length + 1))) :=
    (h02.mono (S' := [w.heap.size + 3, w.heap.size + 2]) (by simp)).setCell (by simp) _
  have h13 : Only [w.heap.size + 3, w.heap.size + 2] w1 (w2.setCell ⟨w.heap.size + 2, 3, none⟩ (.slice (some ⟨w.heap.size + 3, 0, none⟩) (k + 1) (l.length + 1))) :=
    (h12.mono (S' := [w.heap.size + 3, w.heap.size + 2]) (by simp)).setCell (by simp) _
  have k2 := kids.only h03 (fun b hb' => by have := (owns_lt kids b hb').1; simp; omega)
  have k3 := hm.owns.only h13 (fun b hb' => by have := (owns_lt hm.owns b hb').1; simp; omega)
  have hp : ((ts ++ [t']).flatMap T.mrows ++ fs.flatMap fun f => f.2.mrows).Perm ((ts.flatMap T.mrows ++ fs.flatMap fun f => f.2.mrows) ++ t'.mrows) := by
    simp only [List.flatMap_append, List.flatMap_cons, List.flatMap_nil, List.append_nil, List.append_assoc]
    exact List.Perm.append_left _ List.perm_append_comm
  refine ⟨by simp [tl], fl, ?_, fv, ?_, fok, ?_, keep_own row2 h03 (by simp), ?_, ?_, ?_, ?_, keep_row h03 box1 (by simp), keep_row h03 box2 (by simp), ?_⟩
  · simp only at tv ⊢
    rw [List.map_append, tv, List.take_add_one, List.getElem?_map, hx]
    simp [hv]
  · intro y hy
    rcases List.mem_append.1 hy with hy | hy
    · exact tok y hy
    · simp at hy; subst hy; exact hm.ok
  · have := keep_own hrow ((Only.refl [w.heap.size + 2] w2).setCell (p := ⟨w.heap.size + 2, 3, none⟩) (.inl (by simp)) (.slice (some ⟨w.heap.size + 3, 0, none⟩) (k + 1) (l.length + 1))) (by simp)
    simpa using this
  · intro r hr
    rcases List.mem_append.1 (hp.mem_iff.1 hr) with hr | hr
    · exact k2 r hr
    · exact (k3.base (by omega)) r hr
  · exact (hp.filterMap _).nodup_iff.2 (nodup_behind kids hm.owns hB nodup hm.nodup)
  · exact ((Only.of_below (S := []) below).then_ h03 (by simp)).below
  · exact Nat.le_trans size h03.size
  · have b3 := keep_row h02 box3 (by simp)
    have := heap_setCell_same w2 (w.heap.size + 2) 3 _ _ (.slice (some ⟨w.heap.size + 3, 0, none⟩) (k + 1) (l.length + 1)) b3
    exact this
/-- One field more. -/
theorem lent_stepD {kx nx : Int} {sx : ByteArray} {la : Option Addr} {lc : Nat} {l : List T} {da : Option Addr} {dc : Nat} {d : List (ByteArray × T)} {w wr w1 w2 : World} {k j B : Nat} {ts : List T} {fs : List (ByteArray × T)} {x : ByteArray × T} {t' : T}
    (R : LentRel (.mk kx nx sx la lc l da dc d) w wr k j ts fs) (hx : d[j]? = some x) (hxs : okLen x.1.size) (hb : Below wr.heap.size wr w1) (hm : t'.Marked w1 B) (hB : wr.heap.size ≤ B) (hv : t'.val = x.2.val)
    (h12 : Only [w.heap.size + 4] w1 w2) (hrow : w2.ownsRow w.heap.size 44 6 (.slice (some ⟨w.heap.size + 4, 0, none⟩) (j + 1) (d.length + 1)) (j + 1) (fs.flatMap fcells ++ fcells (x.1, t'))) :
    LentRel (.mk kx nx sx la lc l da dc d) w (w2.setCell ⟨w.heap.size + 2, 4, none⟩ (.slice (some ⟨w.heap.size + 4, 0, none⟩) (j + 1) (d.length + 1))) k (j + 1) ts (fs ++ [(x.1, t')]) := by
  obtain ⟨tl, fl, tv, fv, tok, fok, row1, row2, kids, nodup, below, size, box1, box2, box3⟩ := R
  have h02 : Only [w.heap.size + 4] wr w2 := (Only.of_below (S := [w.heap.size + 4]) hb).trans h12
  have h03 : Only [w.heap.size + 4, w.heap.size + 2] wr (w2.setCell ⟨w.heap.size + 2, 4, none⟩ (.slice (some ⟨w.heap.size + 4, 0, none⟩) (j + 1) (d.length + 1))) :=
    (h02.mono (S' := [w.heap.size + 4, w.heap.size + 2]) (by simp)).setCell (by simp) _
  have h13 : Only [w.heap.size + 4, w.heap.size + 2] w1 (w2.setCell ⟨w.heap.size + 2, 4, none⟩ (.slice (some ⟨w.heap.size + 4, 0, none⟩) (j + 1) (d.length + 1))) :=
    (h12.mono (S' := [w.heap.size + 4, w.heap.size + 2]) (by simp)).setCell (by simp) _
  have k2 := kids.only h03 (fun b hb' => by have := (owns_lt kids b hb').1; simp; omega)
  have k3 := hm.owns.only h13 (fun b hb' => by have := (owns_lt hm.owns b hb').1; simp; omega)
  have hp : ts.flatMap T.mrows ++ ((fs ++ [(x.1, t')]).flatMap fun f => f.2.mrows) = (ts.flatMap T.mrows ++ fs.flatMap fun f => f.2.mrows) ++ t'.mrows := by simp
  refine ⟨tl, by simp [fl], tv, ?_, tok, ?_, keep_own row1 h03 (by simp), ?_, ?_, ?_, ?_, ?_, keep_row h03 box1 (by simp), keep_row h03 box2 (by simp), ?_⟩
  · simp only at fv ⊢
    rw [List.map_append, fv, List.take_add_one, List.getElem?_map, hx]
    simp [hv]
  · intro y hy
    rcases List.mem_append.1 hy with hy | hy
    · exact fok y hy
    · simp at hy; subst hy; exact ⟨hxs, hm.ok⟩
  · have := keep_own hrow ((Only.refl [w.heap.size + 2] w2).setCell (p := ⟨w.heap.size + 2, 4, none⟩) (.inl (by simp)) (.slice (some ⟨w.heap.size + 4, 0, none⟩) (j + 1) (d.length + 1))) (by simp)
    simpa using this
  · rw [hp]
    intro r hr
    rcases List.mem_append.1 hr with hr | hr
    · exact k2 r hr
    · exact (k3.base (by omega)) r hr
  · rw [hp]; exact nodup_behind kids hm.owns hB nodup hm.nodup
  · exact ((Only.of_below (S := []) below).then_ h03 (by simp)).below
  · exact Nat.le_trans size h03.size
  · have b3 := keep_row h02 box3 (by simp)
    have := heap_setCell_same w2 (w.heap.size + 2) 4 _ _ (.slice (some ⟨w.heap.size + 4, 0, none⟩) (j + 1) (d.length + 1)) b3
    exact this

theorem lent_start {kx nx : Int} {sx : ByteArray} {la : Option Addr} {lc : Nat} {l : List T} {da : Option Addr} {dc : Nat} {d : List (ByteArray × T)} {w : World} {cur1 cur2 : Array Value} {A B C : Obj}
    (hA : A = .cells #[.int .i64 kx, .int .i64 nx, .string sx, .slice la l.length lc, .slice da d.length dc] 28) (hB : B = .cells #[.int .i64 0, .int .i64 0, .string ⟨#[]⟩, .slice none 0 0, .slice none 0 0] 28)
    (hC : C = .cells #[.int .i64 kx, .int .i64 nx, .string sx, .slice (some ⟨w.heap.size + 3, 0, none⟩) 0 (l.length + 1), .slice (some ⟨w.heap.size + 4, 0, none⟩) 0 (d.length + 1)] 28)
    (h1 : cur1.size = (l.length + 1) * 5) (h2 : cur2.size = (d.length + 1) * 6) (hl : l.length + 1 ≤ 9223372036854775807) (hd : d.length + 1 ≤ 9223372036854775807) :
    LentRel (.mk kx nx sx la lc l da dc d) w (((((w.alloc A).alloc B).alloc C).alloc (.cells cur1 28)).alloc (.cells cur2 44)) 0 0 [] [] := by
  have e3 : (((w.alloc A).alloc B).alloc C).heap.size = w.heap.size + 3 := by simp
  have e4 : ((((w.alloc A).alloc B).alloc C).alloc (.cells cur1 28)).heap.size = w.heap.size + 4 := by simp
  refine ⟨rfl, rfl, by simp, by simp, by simp, by simp, ?_, ?_, by intro r hr; simp at hr, by simp [blocksOf], ?_, by simp, ?_, ?_, ?_⟩
  · have := (own_start (w := ((w.alloc A).alloc B).alloc C) (B := w.heap.size) (e := 28) (c := 5) (cap := l.length + 1) cur1 (by simp; omega) (by unfold maxLen; omega) h1).alloc (.cells cur2 44)
    rw [e3] at this
    exact this
  · have := own_start (w := (((w.alloc A).alloc B).alloc C).alloc (.cells cur1 28)) (B := w.heap.size) (e := 44) (c := 6) (cap := d.length + 1) cur2 (by simp; omega) (by unfold maxLen; omega) h2
    rw [e4] at this
    exact this
  · exact ((below3 _ _ _ _).alloc (by simp; omega) _).alloc (by simp; omega) _
  · have := row_then (w := w.alloc A) (g := w.heap.size) (cs := #[.int .i64 kx, .int .i64 nx, .string sx, .slice la l.length lc, .slice da d.length dc]) (t := 28) (f := (0, 0)) (by rw [hA]; exact heap_alloc_new w _) (((below3 (w.alloc A) B C (.cells cur1 28))).alloc (by simp) (.cells cur2 44))
    exact this
  · have := row_then (w := (w.alloc A).alloc B) (g := w.heap.size + 1) (cs := #[.int .i64 0, .int .i64 0, .string ⟨#[]⟩, .slice none 0 0, .slice none 0 0]) (t := 28) (f := (0, 0)) (by rw [hB]; exact heap_alloc_at _ _ _ (by simp)) (below3 _ C (.cells cur1 28) (.cells cur2 44))
    exact this
  · have := row_then (w := ((w.alloc A).alloc B).alloc C) (g := w.heap.size + 2) (cs := #[.int .i64 kx, .int .i64 nx, .string sx, .slice (some ⟨w.heap.size + 3, 0, none⟩) 0 (l.length + 1), .slice (some ⟨w.heap.size + 4, 0, none⟩) 0 (d.length + 1)]) (t := 28) (f := (0, 0)) (by rw [hC]; exact heap_alloc_at _ _ _ (by simp)) (below2 _ (.cells cur1 28) (.cells cur2 44))
    exact this

def LendsTo (t : T) (w : World) (e : Ending) (w' : World) : Prop := ∃ t' : T, e = .returned t'.arg ∧ t'.val = t.val ∧ t'.Marked w' w.heap.size ∧ Below w.heap.size w w'
theorem lent_end {kx nx : Int} {sx : ByteArray} {la : Option Addr} {lc : Nat} {l : List T} {da : Option Addr} {dc : Nat} {d : List (ByteArray × T)} {w wr w2 w3 w4 : World} {ts : List T} {fs : List (ByteArray × T)}
    (ok : (T.mk kx nx sx la lc l da dc d).ok) (R : LentRel (.mk kx nx sx la lc l da dc d) w wr l.length d.length ts fs) (h02 : Only [w.heap.size + 3] wr w2)
    (r2 : w2.ownsRow w.heap.size 28 5 (.slice (some ⟨w.heap.size + 3, 0, none⟩) (l.length + 1) (l.length + 1)) (l.length + 1) (ts.flatMap T.cells ++ markV)) (h23 : Only [w.heap.size + 4] w2 w3)
    (r3 : w3.ownsRow w.heap.size 44 6 (.slice (some ⟨w.heap.size + 4, 0, none⟩) (d.length + 1) (d.length + 1)) (d.length + 1) (fs.flatMap fcells ++ markD)) (h34 : Only [w.heap.size + 2, w.heap.size + 1] w3 w4) :
    LendsTo (.mk kx nx sx la lc l da dc d) w (.returned (.agg #[.int .i64 kx, .int .i64 nx, .string sx, .slice (some ⟨w.heap.size + 3, 0, none⟩) l.length (l.length + 1), .slice (some ⟨w.heap.size + 4, 0, none⟩) d.length (d.length + 1)])) w4 := by
  obtain ⟨tl, fl, tv, fv, tok, fok, row1, row2, kids, nodup, below, size, box1, box2, box3⟩ := R
  simp only [List.take_of_length_le, List.length_map, Nat.le_refl] at tv fv
  obtain ⟨o1, o2, o3, ⟨o4, o5⟩, o6, -, ⟨o7, o8⟩, o9, -, -, -⟩ := ok
  have h24 : Only [w.heap.size + 4, w.heap.size + 2, w.heap.size + 1] w2 w4 := (h23.mono (S' := [w.heap.size + 4, w.heap.size + 2, w.heap.size + 1]) (by simp)).trans (h34.mono (by simp))
  have h04 : Only [w.heap.size + 3, w.heap.size + 4, w.heap.size + 2, w.heap.size + 1] wr w4 := (h02.mono (S' := [w.heap.size + 3, w.heap.size + 4, w.heap.size + 2, w.heap.size + 1]) (by simp)).trans (h24.mono (by simp))
  have p1 := keep_own r2 h24 (by simp)
  have p2 := keep_own r3 h34 (by simp)
  have pk := kids.only h04 (fun b hb => by have := (owns_lt kids b hb).1; simp; omega)
  refine ⟨.mk kx nx sx (some ⟨w.heap.size + 3, 0, none⟩) (l.length + 1) ts (some ⟨w.heap.size + 4, 0, none⟩) (d.length + 1) fs, by simp only [T.arg, T.cells, tl, fl], by rw [T.val_mk, T.val_mk, tv, fv], ⟨?_, ?_, ?_⟩, ((Only.of_below (S := []) below).then_ h04 (by simp)).below⟩
  · simp only [T.ok, T.okL_iff, T.okD_iff]
    unfold okFar okLen at *
    exact ⟨o1, o2, o3, by omega, by rw [tl]; exact o6, by simp, by omega, by rw [fl]; exact o9, by simp, tok, fok⟩
  · intro r hr
    simp only [T.mrows, T.mrowsL_eq, T.mrowsD_eq] at hr
    rcases List.mem_cons.1 hr with rfl | hr
    · simp only [lrow, tl]; exact p1
    rcases List.mem_cons.1 hr with rfl | hr
    · simp only [drow, fl]; exact p2
    exact pk.base (by omega) r hr
  · have hlt := fun b hb => (owns_lt kids b hb).1
    simp only [T.mrows, T.mrowsL_eq, T.mrowsD_eq, blocksOf, List.filterMap_cons, lrow, drow, Value.ownBlock] at hlt ⊢
    refine List.nodup_cons.2 ⟨fun hc => ?_, List.nodup_cons.2 ⟨fun hc => ?_, nodup⟩⟩
    · rcases List.mem_cons.1 hc with hc | hc
      · omega
      · have := hlt _ hc; omega
    · have := hlt _ hc; omega
end Go.Proofs.YtcpbdmgkeljkgaaGreatDoor
