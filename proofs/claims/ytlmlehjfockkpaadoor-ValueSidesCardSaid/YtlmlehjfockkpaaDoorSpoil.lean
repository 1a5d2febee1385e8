/- The contract of Spoil: no statement is proved here. -/
import Derived.Test.YtlmlehjfockkpaaDoorWith
namespace Go.Proofs.YtlmlehjfockkpaaDoor
open Go.RowKit
set_option maxRecDepth 100000

def spoiltV : List Value := [.int .i64 (-5), .int .i64 0, .string ⟨#[]⟩, .slice none 0 0, .slice none 0 0]
def spoiltD : List Value := [.string ⟨#[115, 112, 111, 105, 108, 116]⟩, .int .i64 (-5), .int .i64 0, .string ⟨#[]⟩, .slice none 0 0, .slice none 0 0]
/-- So many copies of some cells. -/
def copies (n : Nat) (x : List Value) : List Value := (List.replicate n x).flatten
theorem copies_len (n : Nat) (x : List Value) : (copies n x).length = n * x.length := by simp [copies]
theorem copies_succ (n : Nat) (x : List Value) : copies (n + 1) x = copies n x ++ x := by simp [copies, List.replicate_succ']
theorem copies_zero (x : List Value) : copies 0 x = [] := rfl
theorem copies_one (n : Nat) (x : List Value) (h : ∀ u ∈ x, u.oneCell' = true) : ∀ u ∈ copies n x, u.oneCell' = true := by
  intro u hu
  simp only [copies, List.mem_flatten, List.mem_replicate] at hu
  obtain ⟨y, ⟨-, rfl⟩, hy⟩ := hu
  exact h u hy

def SpoilsTo (t : T) (w : World) (e : Ending) (w' : World) : Prop := e = .returned (.tuple #[]) ∧ Only (blocksOf t.rows) w w'
def SpoilAt (t : T) : Prop := ∀ (w : World), t.Own w 0 → t.val.room 1 → Calls Tryd.prog 30 #[t.arg] w (SpoilsTo t w)

/-- Of rows that share no block some are gone through: the others are as they were. -/
theorem owns_pass {w w1 : World} {B : Nat} {R1 R2 : Row} {X Y : List Row} (h : Owns w B (R1 :: R2 :: (X ++ Y))) (nd : (blocksOf (R1 :: R2 :: (X ++ Y))).Nodup) (ho : Only (blocksOf X) w w1) :
    Owns w1 B (R1 :: R2 :: Y) ∧ (blocksOf (R1 :: R2 :: Y)).Nodup := by
  have hs : (R1 :: R2 :: Y).Sublist (R1 :: R2 :: (X ++ Y)) := ((List.sublist_append_right X Y).cons_cons R2).cons_cons R1
  refine ⟨?_, nd.sublist (blocks_sub hs)⟩
  have h1 : Owns w B (R1 :: R2 :: Y) := fun r hr => h r (hs.subset hr)
  refine h1.only ho (fun b hb hc => ?_)
  have hp : (R1 :: R2 :: (X ++ Y)).Perm (X ++ (R1 :: R2 :: Y)) := by
    have e1 : (X ++ (R1 :: R2 :: Y)) = X ++ [R1, R2] ++ Y := by simp
    have e2 : (R1 :: R2 :: (X ++ Y)) = ([R1, R2] ++ X) ++ Y := by simp
    rw [e1, e2]
    exact List.Perm.append_right Y List.perm_append_comm
  have nd2 : (blocksOf (X ++ (R1 :: R2 :: Y))).Nodup := (hp.filterMap (fun r : Row => r.v.ownBlock)).nodup_iff.1 nd
  rw [blocksOf_append] at nd2
  exact (List.nodup_append.1 nd2).2.2 b hc b hb rfl
theorem owns_first {w : World} {B g o : Nat} {e : TypeId} {c n : Nat} {v : Value} {xs xs' us : List Value} {R2 : Row} {Y : List Row} (h : Owns w B (⟨e, c, v, n, xs⟩ :: R2 :: Y)) (nd : (blocksOf (⟨e, c, v, n, xs⟩ :: R2 :: Y)).Nodup) (hv : v.ownBlock = some g)
    (h1 : (putCells w g o us).ownsRow B e c v n xs') : Owns (putCells w g o us) B (⟨e, c, v, n, xs'⟩ :: R2 :: Y) := by
  have hq : blocksOf (⟨e, c, v, n, xs⟩ :: R2 :: Y) = g :: blocksOf (R2 :: Y) := by simp only [blocksOf, List.filterMap_cons (l := R2 :: Y), hv]
  rw [hq] at nd
  clear hq
  have h2 : Owns (putCells w g o us) B (R2 :: Y) := h.tail.only (put_only us g o w) (fun b hb hc => by simp at hc; subst hc; exact (List.nodup_cons.1 nd).1 hb)
  intro r hr
  rcases List.mem_cons.1 hr with rfl | hr
  · exact h1
  · exact h2 r hr
theorem nodup_xs {e : TypeId} {c n : Nat} {v : Value} {xs xs' : List Value} {Y : List Row} (h : (blocksOf (⟨e, c, v, n, xs⟩ :: Y)).Nodup) : (blocksOf (⟨e, c, v, n, xs'⟩ :: Y)).Nodup := h
theorem owns_swap {w : World} {B : Nat} {R1 R2 : Row} {Y : List Row} (h : Owns w B (R1 :: R2 :: Y)) : Owns w B (R2 :: R1 :: Y) := fun r hr => h r ((List.Perm.swap R1 R2 Y).mem_iff.1 hr)
theorem nodup_swap {R1 R2 : Row} {Y : List Row} (h : (blocksOf (R1 :: R2 :: Y)).Nodup) : (blocksOf (R2 :: R1 :: Y)).Nodup := ((List.Perm.swap R2 R1 Y).filterMap (fun r : Row => r.v.ownBlock)).nodup_iff.1 h

/-- After k elements and j fields. -/
structure SpoilRel (w wr : World) (kx nx : Int) (sx : ByteArray) (la : Option Addr) (lc : Nat) (l : List T) (da : Option Addr) (dc : Nat) (d : List (ByteArray × T)) (k j : Nat) : Prop where
  only : Only (blocksOf (T.rows (.mk kx nx sx la lc l da dc d))) w wr
  size : w.heap.size < wr.heap.size
  box : wr.heap[w.heap.size]? = some (.cells #[.int .i64 kx, .int .i64 nx, .string sx, .slice la l.length lc, .slice da d.length dc] 25 (0, 0))
  old : ∀ b ∈ blocksOf (T.rows (.mk kx nx sx la lc l da dc d)), b < w.heap.size
  sub : ∀ r ∈ ((l.drop k).flatMap T.rows ++ (d.drop j).flatMap fun f => f.2.rows), r ∈ T.rows (.mk kx nx sx la lc l da dc d)
  owns : Owns wr 0 (⟨25, 5, .slice la l.length lc, l.length, copies k spoiltV ++ (l.drop k).flatMap T.cells⟩ :: ⟨63, 6, .slice da d.length dc, d.length, copies j spoiltD ++ (d.drop j).flatMap fcells⟩ :: ((l.drop k).flatMap T.rows ++ (d.drop j).flatMap fun f => f.2.rows))
  nodup : (blocksOf (⟨25, 5, .slice la l.length lc, l.length, copies k spoiltV ++ (l.drop k).flatMap T.cells⟩ :: ⟨63, 6, .slice da d.length dc, d.length, copies j spoiltD ++ (d.drop j).flatMap fcells⟩ :: ((l.drop k).flatMap T.rows ++ (d.drop j).flatMap fun f => f.2.rows))).Nodup

theorem spoil_start {w : World} {kx nx : Int} {sx : ByteArray} {la : Option Addr} {lc : Nat} {l : List T} {da : Option Addr} {dc : Nat} {d : List (ByteArray × T)} (h : T.Own w 0 (.mk kx nx sx la lc l da dc d)) :
    SpoilRel w (w.alloc (.cells #[.int .i64 kx, .int .i64 nx, .string sx, .slice la l.length lc, .slice da d.length dc] 25)) kx nx sx la lc l da dc d 0 0 := by
  obtain ⟨-, ho, hn⟩ := h
  have hlt := owns_lt ho
  have hb := below1 w (.cells #[.int .i64 kx, .int .i64 nx, .string sx, .slice la l.length lc, .slice da d.length dc] 25)
  have ho2 := ho.below hb
  refine ⟨Only.of_below hb, by simp, heap_alloc_new w _, fun b hb => (hlt b hb).2, fun r hr => ?_, ?_, ?_⟩
  · rw [rows_mk]; simp only [List.drop_zero] at hr; exact List.mem_cons_of_mem _ (List.mem_cons_of_mem _ hr)
  · rw [rows_mk] at ho2; simpa [copies_zero] using ho2
  · rw [rows_mk] at hn; simpa [copies_zero] using hn

theorem spoil_stepL {w wr w1 : World} {kx nx : Int} {sx : ByteArray} {lc : Nat} {l : List T} {da : Option Addr} {dc : Nat} {d : List (ByteArray × T)} {k j g : Nat} {x : T}
    (R : SpoilRel w wr kx nx sx (some ⟨g, 0, none⟩) lc l da dc d k j) (hx : l[k]? = some x) (ho : Only (blocksOf x.rows) wr w1) : SpoilRel w (putCells w1 g (k * 5) spoiltV) kx nx sx (some ⟨g, 0, none⟩) lc l da dc d (k + 1) j := by
  obtain ⟨h1, h2, h3, h4, h5, h6, h7⟩ := R
  obtain ⟨hk, rfl⟩ := List.getElem?_eq_some_iff.1 hx
  have e5 : (l.drop k).flatMap T.rows = (l[k]).rows ++ (l.drop (k + 1)).flatMap T.rows := by rw [List.drop_eq_getElem_cons hk, List.flatMap_cons]
  have e6 : copies k spoiltV ++ (l.drop k).flatMap T.cells = copies k spoiltV ++ (l[k]).cells ++ (l.drop (k + 1)).flatMap T.cells := by rw [List.drop_eq_getElem_cons hk, List.flatMap_cons, List.append_assoc]
  rw [e5, List.append_assoc] at h5
  rw [e6, e5, List.append_assoc ((l[k]).rows)] at h6 h7
  have hg : g ∈ blocksOf (T.rows (.mk kx nx sx (some ⟨g, 0, none⟩) lc l da dc d)) := by rw [rows_mk]; exact List.mem_filterMap.2 ⟨_, List.mem_cons_self .., rfl⟩
  have hsub : ∀ b ∈ blocksOf (l[k]).rows, b ∈ blocksOf (T.rows (.mk kx nx sx (some ⟨g, 0, none⟩) lc l da dc d)) := fun b hb => by
    obtain ⟨r, hr, hv⟩ := List.mem_filterMap.1 hb
    exact List.mem_filterMap.2 ⟨r, h5 r (List.mem_append.2 (.inl hr)), hv⟩
  obtain ⟨o1, n1⟩ := owns_pass h6 h7 ho
  have hc : (copies k spoiltV).length = k * 5 := by rw [copies_len]; rfl
  have p1 := own_mid (us := spoiltV) o1.head (by rw [cells_len]; rfl)
  rw [hc] at p1
  have o2 := owns_first o1 n1 rfl p1
  have h01 : Only (blocksOf (T.rows (.mk kx nx sx (some ⟨g, 0, none⟩) lc l da dc d))) w w1 := h1.then_ ho (fun i hi => .inl (hsub i hi))
  have b0 : w1.heap[w.heap.size]? = _ := (ho.block _ h2 (fun hc => by have := h4 _ (hsub _ hc); omega)).trans h3
  refine ⟨h01.then_ (put_only spoiltV g (k * 5) w1) (fun i hi => by simp at hi; subst hi; exact .inl hg), ?_, (put_other _ _ _ _ _ (by have := h4 g hg; omega)).trans b0, h4, fun r hr => h5 r (List.mem_append.2 (.inr hr)), ?_, ?_⟩
  · have := put_size spoiltV g (k * 5) w1; have := ho.size; omega
  · rw [copies_succ]; exact o2
  · exact nodup_xs n1
theorem spoil_stepD {w wr w1 : World} {kx nx : Int} {sx : ByteArray} {la : Option Addr} {lc : Nat} {l : List T} {dc : Nat} {d : List (ByteArray × T)} {k j g : Nat} {x : ByteArray × T}
    (R : SpoilRel w wr kx nx sx la lc l (some ⟨g, 0, none⟩) dc d k j) (hk : l.length ≤ k) (hx : d[j]? = some x) (ho : Only (blocksOf x.2.rows) wr w1) : SpoilRel w (putCells w1 g (j * 6) spoiltD) kx nx sx la lc l (some ⟨g, 0, none⟩) dc d k (j + 1) := by
  obtain ⟨h1, h2, h3, h4, h5, h6, h7⟩ := R
  obtain ⟨hj, rfl⟩ := List.getElem?_eq_some_iff.1 hx
  have hl0 : l.drop k = [] := List.drop_eq_nil_of_le hk
  have e5 : (d.drop j).flatMap (fun f => f.2.rows) = (d[j]).2.rows ++ (d.drop (j + 1)).flatMap (fun f => f.2.rows) := by rw [List.drop_eq_getElem_cons hj, List.flatMap_cons]
  have e6 : copies j spoiltD ++ (d.drop j).flatMap fcells = copies j spoiltD ++ fcells (d[j]) ++ (d.drop (j + 1)).flatMap fcells := by rw [List.drop_eq_getElem_cons hj, List.flatMap_cons, List.append_assoc]
  rw [hl0, e5, List.flatMap_nil, List.nil_append] at h5
  rw [hl0, e6, e5, List.flatMap_nil, List.flatMap_nil, List.nil_append] at h6 h7
  have hg : g ∈ blocksOf (T.rows (.mk kx nx sx la lc l (some ⟨g, 0, none⟩) dc d)) := by rw [rows_mk]; exact List.mem_filterMap.2 ⟨_, List.mem_cons_of_mem _ (List.mem_cons_self ..), rfl⟩
  have hsub : ∀ b ∈ blocksOf (d[j]).2.rows, b ∈ blocksOf (T.rows (.mk kx nx sx la lc l (some ⟨g, 0, none⟩) dc d)) := fun b hb => by
    obtain ⟨r, hr, hv⟩ := List.mem_filterMap.1 hb
    exact List.mem_filterMap.2 ⟨r, h5 r (List.mem_append.2 (.inl hr)), hv⟩
  obtain ⟨o1, n1⟩ := owns_pass h6 h7 ho
  have hc : (copies j spoiltD).length = j * 6 := by rw [copies_len]; rfl
  have p1 := own_mid (us := spoiltD) (owns_swap o1).head (by rw [fcells_len]; rfl)
  rw [hc] at p1
  have o2 := owns_swap (owns_first (owns_swap o1) (nodup_swap n1) rfl p1)
  have h01 : Only (blocksOf (T.rows (.mk kx nx sx la lc l (some ⟨g, 0, none⟩) dc d))) w w1 := h1.then_ ho (fun i hi => .inl (hsub i hi))
  have b0 : w1.heap[w.heap.size]? = _ := (ho.block _ h2 (fun hc => by have := h4 _ (hsub _ hc); omega)).trans h3
  refine ⟨h01.then_ (put_only spoiltD g (j * 6) w1) (fun i hi => by simp at hi; subst hi; exact .inl hg), ?_, (put_other _ _ _ _ _ (by have := h4 g hg; omega)).trans b0, h4, fun r hr => h5 r (List.mem_append.2 (.inr (by rw [hl0, List.flatMap_nil, List.nil_append] at hr; exact hr))), ?_, ?_⟩
  · have := put_size spoiltD g (j * 6) w1; have := ho.size; omega
  · rw [hl0, copies_succ, List.flatMap_nil, List.flatMap_nil, List.nil_append]; exact o2
  · rw [hl0, copies_succ, List.flatMap_nil, List.flatMap_nil, List.nil_append]; exact nodup_swap (nodup_xs (nodup_swap n1))

/-- The next element is the call's own. -/
theorem spoil_kidL {w wr : World} {kx nx : Int} {sx : ByteArray} {la : Option Addr} {lc : Nat} {l : List T} {da : Option Addr} {dc : Nat} {d : List (ByteArray × T)} {k j : Nat} {x : T}
    (R : SpoilRel w wr kx nx sx la lc l da dc d k j) (hx : l[k]? = some x) (ok : x.ok) : x.Own wr 0 := by
  obtain ⟨hk, rfl⟩ := List.getElem?_eq_some_iff.1 hx
  have hs : ((l[k]).rows).Sublist (⟨25, 5, .slice la l.length lc, l.length, copies k spoiltV ++ (l.drop k).flatMap T.cells⟩ :: ⟨63, 6, .slice da d.length dc, d.length, copies j spoiltD ++ (d.drop j).flatMap fcells⟩ :: ((l.drop k).flatMap T.rows ++ (d.drop j).flatMap fun f => f.2.rows)) := by
    rw [List.drop_eq_getElem_cons hk, List.flatMap_cons (f := T.rows), List.append_assoc]
    exact ((List.sublist_append_left _ _).cons _).cons _
  exact ⟨ok, fun r hr => R.owns r (hs.subset hr), R.nodup.sublist (blocks_sub hs)⟩
theorem spoil_kidD {w wr : World} {kx nx : Int} {sx : ByteArray} {la : Option Addr} {lc : Nat} {l : List T} {da : Option Addr} {dc : Nat} {d : List (ByteArray × T)} {k j : Nat} {x : ByteArray × T}
    (R : SpoilRel w wr kx nx sx la lc l da dc d k j) (hx : d[j]? = some x) (ok : x.2.ok) : x.2.Own wr 0 := by
  obtain ⟨hj, rfl⟩ := List.getElem?_eq_some_iff.1 hx
  have hs : ((d[j]).2.rows).Sublist (⟨25, 5, .slice la l.length lc, l.length, copies k spoiltV ++ (l.drop k).flatMap T.cells⟩ :: ⟨63, 6, .slice da d.length dc, d.length, copies j spoiltD ++ (d.drop j).flatMap fcells⟩ :: ((l.drop k).flatMap T.rows ++ (d.drop j).flatMap fun f => f.2.rows)) := by
    rw [List.drop_eq_getElem_cons hj, List.flatMap_cons (f := fun f : ByteArray × T => f.2.rows)]
    exact (((List.sublist_append_left _ _).trans (List.sublist_append_right _ _)).cons _).cons _
  exact ⟨ok, fun r hr => R.owns r (hs.subset hr), R.nodup.sublist (blocks_sub hs)⟩
/-- A block of a row that a call did not own is as it was. -/
theorem far_block {w : World} {R1 R2 : Row} {X Y : List Row} {g : Nat} {w1 : World} {B : Nat} (h : Owns w B (R1 :: R2 :: (X ++ Y))) (nd : (blocksOf (R1 :: R2 :: (X ++ Y))).Nodup) (hg : g ∈ blocksOf (R1 :: R2 :: Y)) (ho : Only (blocksOf X) w w1) : w1.heap[g]? = w.heap[g]? := by
  have hs : (R1 :: R2 :: Y).Sublist (R1 :: R2 :: (X ++ Y)) := ((List.sublist_append_right X Y).cons_cons R2).cons_cons R1
  refine ho.block g (owns_lt h g ((blocks_sub hs).subset hg)).2 (fun hc => ?_)
  have hp : (R1 :: R2 :: (X ++ Y)).Perm (X ++ (R1 :: R2 :: Y)) := by
    have e1 : (X ++ (R1 :: R2 :: Y)) = X ++ [R1, R2] ++ Y := by simp
    have e2 : (R1 :: R2 :: (X ++ Y)) = ([R1, R2] ++ X) ++ Y := by simp
    rw [e1, e2]
    exact List.Perm.append_right Y List.perm_append_comm
  have nd2 : (blocksOf (X ++ (R1 :: R2 :: Y))).Nodup := (hp.filterMap (fun r : Row => r.v.ownBlock)).nodup_iff.1 nd
  rw [blocksOf_append] at nd2
  exact (List.nodup_append.1 nd2).2.2 g hc g hg rfl
/-- Behind the call for an element. -/
theorem spoil_farL {w wr w1 : World} {kx nx : Int} {sx : ByteArray} {lc : Nat} {l : List T} {da : Option Addr} {dc : Nat} {d : List (ByteArray × T)} {k j g : Nat} {x : T}
    (R : SpoilRel w wr kx nx sx (some ⟨g, 0, none⟩) lc l da dc d k j) (hx : l[k]? = some x) (ho : Only (blocksOf x.rows) wr w1) : w1.heap[w.heap.size]? = wr.heap[w.heap.size]? ∧ w1.heap[g]? = wr.heap[g]? := by
  obtain ⟨h1, h2, h3, h4, h5, h6, h7⟩ := R
  obtain ⟨hk, rfl⟩ := List.getElem?_eq_some_iff.1 hx
  have e5 : (l.drop k).flatMap T.rows = (l[k]).rows ++ (l.drop (k + 1)).flatMap T.rows := by rw [List.drop_eq_getElem_cons hk, List.flatMap_cons]
  rw [e5, List.append_assoc] at h5 h6 h7
  refine ⟨ho.block _ h2 (fun hc => ?_), far_block h6 h7 (List.mem_filterMap.2 ⟨_, List.mem_cons_self .., rfl⟩) ho⟩
  obtain ⟨r, hr, hv⟩ := List.mem_filterMap.1 hc
  have := h4 _ (List.mem_filterMap.2 ⟨r, h5 r (List.mem_append.2 (.inl hr)), hv⟩)
  omega
theorem spoil_farD {w wr w1 : World} {kx nx : Int} {sx : ByteArray} {la : Option Addr} {lc : Nat} {l : List T} {dc : Nat} {d : List (ByteArray × T)} {k j g : Nat} {x : ByteArray × T}
    (R : SpoilRel w wr kx nx sx la lc l (some ⟨g, 0, none⟩) dc d k j) (hk : l.length ≤ k) (hx : d[j]? = some x) (ho : Only (blocksOf x.2.rows) wr w1) : w1.heap[w.heap.size]? = wr.heap[w.heap.size]? ∧ w1.heap[g]? = wr.heap[g]? := by
  obtain ⟨h1, h2, h3, h4, h5, h6, h7⟩ := R
  obtain ⟨hj, rfl⟩ := List.getElem?_eq_some_iff.1 hx
  have hl0 : l.drop k = [] := List.drop_eq_nil_of_le hk
  have e5 : (d.drop j).flatMap (fun f => f.2.rows) = (d[j]).2.rows ++ (d.drop (j + 1)).flatMap (fun f => f.2.rows) := by rw [List.drop_eq_getElem_cons hj, List.flatMap_cons]
  rw [hl0, e5, List.flatMap_nil, List.nil_append] at h5
  rw [hl0, e5, List.flatMap_nil, List.flatMap_nil, List.nil_append] at h6 h7
  refine ⟨ho.block _ h2 (fun hc => ?_), far_block h6 h7 (List.mem_filterMap.2 ⟨_, List.mem_cons_of_mem _ (List.mem_cons_self ..), rfl⟩) ho⟩
  obtain ⟨r, hr, hv⟩ := List.mem_filterMap.1 hc
  have := h4 _ (List.mem_filterMap.2 ⟨r, h5 r (List.mem_append.2 (.inl hr)), hv⟩)
  omega
/-- The cells of the next element, and of the next field. -/
theorem spoil_five {w wr : World} {kx nx : Int} {sx : ByteArray} {la : Option Addr} {lc : Nat} {l : List T} {da : Option Addr} {dc : Nat} {d : List (ByteArray × T)} {k j : Nat}
    (R : SpoilRel w wr kx nx sx la lc l da dc d k j) (hk : k < l.length) : ∃ g k1 n1 s1 la1 lc1 l1 da1 dc1 d1, la = some ⟨g, 0, none⟩ ∧ l[k]? = some (.mk k1 n1 s1 la1 lc1 l1 da1 dc1 d1) ∧
      wr.cell? ⟨g, k * 5, none⟩ = some (.int .i64 k1) ∧ wr.cell? ⟨g, k * 5 + 1, none⟩ = some (.int .i64 n1) ∧ wr.cell? ⟨g, k * 5 + 2, none⟩ = some (.string s1) ∧
      wr.cell? ⟨g, k * 5 + 3, none⟩ = some (.slice la1 l1.length lc1) ∧ wr.cell? ⟨g, k * 5 + 4, none⟩ = some (.slice da1 d1.length dc1) ∧ ∀ i, i < l.length * 5 → wr.frozen? ⟨g, i, none⟩ = false := by
  have h := R.owns.head
  simp only at h
  obtain ⟨g, rfl⟩ : ∃ g, la = some ⟨g, 0, none⟩ := by
    obtain ⟨m, hm⟩ : ∃ m, l.length = m + 1 := ⟨l.length - 1, by omega⟩
    rw [hm] at h
    obtain ⟨g, hg, -⟩ := own_live h
    exact ⟨g, hg⟩
  have hx : l[k]? = some l[k] := List.getElem?_eq_getElem hk
  have hc : ∀ i u, (l[k]).cells[i]? = some u → wr.cell? ⟨g, k * 5 + i, none⟩ = some u := by
    intro i u hu
    have hi := lt_of_get hu
    rw [cells_len] at hi
    rw [h.cellAt (k * 5 + i) (by omega), List.getElem?_append_right (by rw [copies_len]; simp [spoiltV]), copies_len, show k * 5 + i - k * spoiltV.length = 0 * 5 + i by simp [spoiltV]]
    exact (flatMap_get T.cells 5 cells_len _ 0 (l[k]) (by rw [List.drop_eq_getElem_cons hk]; rfl) i hi).trans hu
  have hf : ∀ i, i < l.length * 5 → wr.frozen? ⟨g, i, none⟩ = false := fun i _ => h.frozenAt i
  revert hc hx
  obtain ⟨k1, n1, s1, la1, lc1, l1, da1, dc1, d1⟩ := l[k]
  intro hx hc
  exact ⟨g, k1, n1, s1, la1, lc1, l1, da1, dc1, d1, rfl, hx, hc 0 _ rfl, hc 1 _ rfl, hc 2 _ rfl, hc 3 _ rfl, hc 4 _ rfl, hf⟩
theorem spoil_six {w wr : World} {kx nx : Int} {sx : ByteArray} {la : Option Addr} {lc : Nat} {l : List T} {da : Option Addr} {dc : Nat} {d : List (ByteArray × T)} {k j : Nat}
    (R : SpoilRel w wr kx nx sx la lc l da dc d k j) (hj : j < d.length) : ∃ g f1 k1 n1 s1 la1 lc1 l1 da1 dc1 d1, da = some ⟨g, 0, none⟩ ∧ d[j]? = some (f1, .mk k1 n1 s1 la1 lc1 l1 da1 dc1 d1) ∧
      wr.cell? ⟨g, j * 6, none⟩ = some (.string f1) ∧ wr.cell? ⟨g, j * 6 + 1, none⟩ = some (.int .i64 k1) ∧ wr.cell? ⟨g, j * 6 + 2, none⟩ = some (.int .i64 n1) ∧ wr.cell? ⟨g, j * 6 + 3, none⟩ = some (.string s1) ∧
      wr.cell? ⟨g, j * 6 + 4, none⟩ = some (.slice la1 l1.length lc1) ∧ wr.cell? ⟨g, j * 6 + 5, none⟩ = some (.slice da1 d1.length dc1) ∧ ∀ i, i < d.length * 6 → wr.frozen? ⟨g, i, none⟩ = false := by
  have h := R.owns.tail.head
  simp only at h
  obtain ⟨g, rfl⟩ : ∃ g, da = some ⟨g, 0, none⟩ := by
    obtain ⟨m, hm⟩ : ∃ m, d.length = m + 1 := ⟨d.length - 1, by omega⟩
    rw [hm] at h
    obtain ⟨g, hg, -⟩ := own_live h
    exact ⟨g, hg⟩
  have hx : d[j]? = some d[j] := List.getElem?_eq_getElem hj
  have hc : ∀ i u, (fcells (d[j]))[i]? = some u → wr.cell? ⟨g, j * 6 + i, none⟩ = some u := by
    intro i u hu
    have hi := lt_of_get hu
    rw [fcells_len] at hi
    rw [h.cellAt (j * 6 + i) (by omega), List.getElem?_append_right (by rw [copies_len]; simp [spoiltD]), copies_len, show j * 6 + i - j * spoiltD.length = 0 * 6 + i by simp [spoiltD]]
    exact (flatMap_getD fcells 6 fcells_len _ 0 (d[j]) (by rw [List.drop_eq_getElem_cons hj]; rfl) i hi).trans hu
  have hf : ∀ i, i < d.length * 6 → wr.frozen? ⟨g, i, none⟩ = false := fun i _ => h.frozenAt i
  revert hc hx
  obtain ⟨f1, k1, n1, s1, la1, lc1, l1, da1, dc1, d1⟩ := d[j]
  intro hx hc
  exact ⟨g, f1, k1, n1, s1, la1, lc1, l1, da1, dc1, d1, rfl, hx, hc 0 _ rfl, hc 1 _ rfl, hc 2 _ rfl, hc 3 _ rfl, hc 4 _ rfl, hc 5 _ rfl, hf⟩
/-- The two appends at the end. -/
theorem spoil_end {w wr w2 w3 : World} {kx nx : Int} {sx : ByteArray} {la : Option Addr} {lc : Nat} {l : List T} {da : Option Addr} {dc : Nat} {d : List (ByteArray × T)} {k j : Nat} {X Y : Obj}
    (R : SpoilRel w wr kx nx sx la lc l da dc d k j) (h2 : (wr.alloc X).grownBy w2 (Value.slice la l.length lc).ownBlock) (h3 : (w2.alloc Y).grownBy w3 (Value.slice da d.length dc).ownBlock) : Only (blocksOf (T.rows (.mk kx nx sx la lc l da dc d))) w w3 := by
  have a1 : Only (Value.slice la l.length lc).ownBlock.toList wr w2 := (Only.of_below (below1 _ _)).trans (Only.of_grow h2)
  have a2 : Only (Value.slice da d.length dc).ownBlock.toList w2 w3 := (Only.of_below (below1 _ _)).trans (Only.of_grow h3)
  refine (R.only.then_ a1 (fun i hi => .inl ?_)).then_ a2 (fun i hi => .inl ?_)
  · exact blocks_mk.2 (.inl (by simpa using hi))
  · exact blocks_mk.2 (.inr (.inl (by simpa using hi)))
theorem spoil_mid {w wr w2 : World} {kx nx : Int} {sx : ByteArray} {la : Option Addr} {lc : Nat} {l : List T} {da : Option Addr} {dc : Nat} {d : List (ByteArray × T)} {k j : Nat} {X : Obj}
    (R : SpoilRel w wr kx nx sx la lc l da dc d k j) (h2 : (wr.alloc X).grownBy w2 (Value.slice la l.length lc).ownBlock) :
    w2.ownsRow 0 63 6 (.slice da d.length dc) d.length (copies j spoiltD ++ (d.drop j).flatMap fcells) ∧ w2.heap[w.heap.size]? = some (.cells #[.int .i64 kx, .int .i64 nx, .string sx, .slice la l.length lc, .slice da d.length dc] 25 (0, 0)) := by
  have a1 : Only (Value.slice la l.length lc).ownBlock.toList wr w2 := (Only.of_below (below1 _ _)).trans (Only.of_grow h2)
  have nd := R.nodup
  constructor
  · have o1 : Owns wr 0 [⟨63, 6, .slice da d.length dc, d.length, copies j spoiltD ++ (d.drop j).flatMap fcells⟩] := fun r hr => by simp only [List.mem_singleton] at hr; subst hr; exact R.owns.tail.head
    have o2 := o1.only a1 (fun b hb hc => by
      have hc : (Value.slice la l.length lc).ownBlock = some b := by simpa using hc
      have hb : (Value.slice da d.length dc).ownBlock = some b := by
        obtain ⟨r, hr, hv⟩ := List.mem_filterMap.1 hb
        simp only [List.mem_singleton] at hr
        subst hr; exact hv
      unfold blocksOf at nd
      rw [List.filterMap_cons, List.filterMap_cons] at nd
      simp only [hc, hb] at nd
      exact (List.nodup_cons.1 nd).1 (List.mem_cons_self ..))
    exact o2 _ (List.mem_cons_self ..)
  · refine (a1.block _ R.size (fun hc => ?_)).trans R.box
    have := R.old w.heap.size (blocks_mk.2 (.inl (by simpa using hc)))
    omega

set_option maxHeartbeats 4000000 in
theorem spoil_any (t : T) : SpoilAt t := by
  induction t using T.ind with
  | h kx nx sx lax lcx lx dax dcx dx ihl ihd =>
  intro w own room
  show Calls _ _ #[.agg #[.int .i64 kx, .int .i64 nx, .string sx, .slice lax lx.length lcx, .slice dax dx.length dcx]] _ _
  obtain ⟨-, -, -, -, hs, hl1, hl2, hd1, hd2, okl, okd⟩ := own.ok.parts
  obtain ⟨i0, hi0, hz0, hz1, hz2⟩ := info_parts info_value
  obtain ⟨i1, hi1, hy0, hy1, hy2⟩ := info_parts info_field
  rw [T.room_mk] at room
  obtain ⟨r1, r2, r3⟩ := room
  have I0 := Lib.hid (And.intro hi0 (And.intro hz0 (And.intro hz1 hz2)))
  have I1 := Lib.hid (And.intro hi1 (And.intro hy0 (And.intro hy1 hy2)))
  have HL := Lib.hid (fun x hx => And.intro (okl x hx) (fun w h => ihl x hx w h (r2 x hx)))
  have HD := Lib.hid (fun x hx => And.intro (okd x hx).2 (fun w h => ihd x hx w h (r3 x hx)))
  have HS := Lib.hid (spoil_start own)
  clear ihl ihd okl okd own r2 r3 hi0 hz0 hz1 hz2 hi1 hy0 hy1 hy2
  go_enter Tryd.func30, Tryd.ntmps30
  go_wp2_with fail
  go_loopw [2] (fun i wr => ∃ (k : Nat), k ≤ lx.length ∧ i = .int .i64 k ∧ SpoilRel w wr kx nx sx lax lcx lx dax dcx dx k 0) (fun i _ => lx.length - (intOf i).toNat)
  case atStart => exact ⟨0, by omega, rfl, HS.out⟩
  case round =>
    clear HS
    obtain ⟨k, hk, rfl, R⟩ := hrel
    have HR := Lib.hid R
    have q1 : ∀ o, wr.cell? ⟨w.heap.size, o, none⟩ = (#[.int .i64 kx, .int .i64 nx, .string sx, .slice lax lx.length lcx, .slice dax dx.length dcx] : Array Value)[o]? := row_cells R.box
    clear R
    by_cases h1 : k < lx.length
    · obtain ⟨g, k1, n1, s1, la1, lc1, l1, da1, dc1, d1, rfl, hx, x0, x1, x2, x3, x4, fz⟩ := spoil_five HR.out h1
      have H := Lib.hid (HL.out _ (List.mem_of_getElem? hx))
      have HX := Lib.hid hx
      clear hx
      go_wp2_with fail
      refine (H.out.2 _ (spoil_kidL HR.out HX.out H.out.1)).mono ?_
      rintro e w1 ⟨rfl, ho⟩
      have hf := spoil_farL HR.out HX.out ho
      have c1 : ∀ o, w1.cell? ⟨w.heap.size, o, none⟩ = (#[.int .i64 kx, .int .i64 nx, .string sx, .slice (some ⟨g, 0, none⟩) lx.length lcx, .slice dax dx.length dcx] : Array Value)[o]? := row_cells (hf.1.trans HR.out.box)
      have y : ∀ i, w1.cell? ⟨g, i, none⟩ = wr.cell? ⟨g, i, none⟩ := fun i => World.cell?_of_block hf.2
      have y0 := (y (k * 5)).trans x0
      have y1 := (y (k * 5 + 1)).trans x1
      have y2 := (y (k * 5 + 2)).trans x2
      have y3 := (y (k * 5 + 3)).trans x3
      have y4 := (y (k * 5 + 4)).trans x4
      have fy : ∀ i, i < lx.length * 5 → w1.frozen? ⟨g, i, none⟩ = false := fun i hi => (World.frozen?_of_block hf.2).trans (fz i hi)
      have f0 := fy (k * 5) (by omega)
      have f1 := fy (k * 5 + 1) (by omega)
      have f2 := fy (k * 5 + 2) (by omega)
      have f3 := fy (k * 5 + 3) (by omega)
      have f4 := fy (k * 5 + 4) (by omega)
      have HT := spoil_stepL HR.out HX.out ho
      rw [spoiltV, put5] at HT
      replace HT := Lib.hid HT
      clear x0 x1 x2 x3 x4 fz fy y hf ho q1
      go_wp2_with fail
      go_roundw
      case rel => exact ⟨k + 1, by omega, by go_num, HT.out⟩
      case measure => simp [intOf]; omega
    · have hkl : k = lx.length := by omega
      subst hkl
      go_wp2_with fail
      clear q1
      obtain ⟨wo, rfl⟩ : ∃ wo : World, wo = wr := ⟨_, rfl⟩
      go_loopw [3] (fun i wr => ∃ (j : Nat), j ≤ dx.length ∧ i = .int .i64 j ∧ SpoilRel w wr kx nx sx lax lcx lx dax dcx dx lx.length j) (fun i _ => dx.length - (intOf i).toNat)
      case atStart => exact ⟨0, by omega, rfl, HR.out⟩
      case round =>
        clear HR
        obtain ⟨j, hj, rfl, R⟩ := hrel
        have HR := Lib.hid R
        have q1 : ∀ o, wr.cell? ⟨w.heap.size, o, none⟩ = (#[.int .i64 kx, .int .i64 nx, .string sx, .slice lax lx.length lcx, .slice dax dx.length dcx] : Array Value)[o]? := row_cells R.box
        clear R
        by_cases h1 : j < dx.length
        · obtain ⟨g, f1, k1, n1, s1, la1, lc1, l1, da1, dc1, d1, rfl, hx, x0, x1, x2, x3, x4, x5, fz⟩ := spoil_six HR.out h1
          have H := Lib.hid (HD.out _ (List.mem_of_getElem? hx))
          have HX := Lib.hid hx
          clear hx
          go_wp2_with fail
          refine (H.out.2 _ (spoil_kidD HR.out HX.out H.out.1)).mono ?_
          rintro e w1 ⟨rfl, ho⟩
          have hf := spoil_farD HR.out (Nat.le_refl _) HX.out ho
          have c1 : ∀ o, w1.cell? ⟨w.heap.size, o, none⟩ = (#[.int .i64 kx, .int .i64 nx, .string sx, .slice lax lx.length lcx, .slice (some ⟨g, 0, none⟩) dx.length dcx] : Array Value)[o]? := row_cells (hf.1.trans HR.out.box)
          have y : ∀ i, w1.cell? ⟨g, i, none⟩ = wr.cell? ⟨g, i, none⟩ := fun i => World.cell?_of_block hf.2
          have y0 := (y (j * 6)).trans x0
          have y1 := (y (j * 6 + 1)).trans x1
          have y2 := (y (j * 6 + 2)).trans x2
          have y3 := (y (j * 6 + 3)).trans x3
          have y4 := (y (j * 6 + 4)).trans x4
          have y5 := (y (j * 6 + 5)).trans x5
          have fy : ∀ i, i < dx.length * 6 → w1.frozen? ⟨g, i, none⟩ = false := fun i hi => (World.frozen?_of_block hf.2).trans (fz i hi)
          have f0 := fy (j * 6) (by omega)
          have f1 := fy (j * 6 + 1) (by omega)
          have f2 := fy (j * 6 + 2) (by omega)
          have f3 := fy (j * 6 + 3) (by omega)
          have f4 := fy (j * 6 + 4) (by omega)
          have f5 := fy (j * 6 + 5) (by omega)
          have HT := spoil_stepD HR.out (Nat.le_refl _) HX.out ho
          rw [spoiltD, put6] at HT
          replace HT := Lib.hid HT
          clear x0 x1 x2 x3 x4 x5 fz fy y hf ho q1
          go_wp2_with fail
          go_roundw
          case rel => exact ⟨j + 1, by omega, by go_num, HT.out⟩
          case measure => simp [intOf]; omega
        · have hjl : j = dx.length := by omega
          subst hjl
          have q2 : ∀ X i, (wr.alloc X).cell? ⟨w.heap.size, i, none⟩ = (#[.int .i64 kx, .int .i64 nx, .string sx, .slice lax lx.length lcx, .slice dax dx.length dcx] : Array Value)[i]? := fun X => row_cells (row_then HR.out.box (below1 _ X))
          go_wp2_with (first
            | (at_builtin; refine wpList_append_lies _ rfl (.tmp 45) (.tmp 47) 22 rfl 0 25 i0 _ 5 80 Tryd.underlying22 I0.out.1 I0.out.2.1 I0.out.2.2.1 I0.out.2.2.2 rfl (by decide) (.slice lax lx.length lcx) lx.length _ rfl (HR.out.owns.head.alloc _) ⟨wr.heap.size, 0, none⟩ 1 1 [.int .i64 (-6), .int .i64 0, .string ⟨#[]⟩, .slice none 0 0, .slice none 0 0] rfl rfl (news_at _ #[.int .i64 (-6), .int .i64 0, .string ⟨#[]⟩, .slice none 0 0, .slice none 0 0] _ _ rfl) (by simp [Value.oneCell']) (by decide) (by unfold maxLen; omega) (by omega) (by omega) _ rfl ?_; intro g2 cap2 w2 own2 grow2 hg2 hlt2; have M := spoil_mid HR.out grow2; have c2 : ∀ i, w2.cell? ⟨w.heap.size, i, none⟩ = (#[.int .i64 kx, .int .i64 nx, .string sx, .slice lax lx.length lcx, .slice dax dx.length dcx] : Array Value)[i]? := row_cells M.2; have HM := Lib.hid M; clear M)
            | (at_builtin; refine wpList_append_lies _ rfl (.tmp 50) (.tmp 52) 23 rfl 0 63 i1 _ 6 96 Tryd.underlying23 I1.out.1 I1.out.2.1 I1.out.2.2.1 I1.out.2.2.2 rfl (by decide) (.slice dax dx.length dcx) dx.length _ rfl (HM.out.1.alloc _) ⟨w2.heap.size, 0, none⟩ 1 1 [.string ⟨#[109, 111, 114, 101]⟩, .int .i64 0, .int .i64 0, .string ⟨#[]⟩, .slice none 0 0, .slice none 0 0] rfl rfl (news_at _ #[.string ⟨#[109, 111, 114, 101]⟩, .int .i64 0, .int .i64 0, .string ⟨#[]⟩, .slice none 0 0, .slice none 0 0] _ _ rfl) (by simp [Value.oneCell']) (by decide) (by unfold maxLen; omega) (by omega) (by omega) _ rfl ?_; intro g3 cap3 w3 own3 grow3 hg3 hlt3))
          all_goals (refine bodyPost_ret (v := .tuple #[]) (by simp [results, Tryd.results30, go_sem]) rfl ⟨rfl, spoil_end HR.out grow2 grow3⟩)
end Go.Proofs.YtlmlehjfockkpaaDoor
