/- The contract of the document's own Without: no statement is proved here. -/
import Derived.Test.YtkklnfihjikilaaDoorRefWith
import Derived.Test.YtkklnfihjikilaaDoorOther
namespace Go.Proofs.YtkklnfihjikilaaDoor
open Go.RowKit
set_option maxRecDepth 100000

/-- Rows of which the first has grown. -/
theorem owns_grow {wr w1 w2 : World} {B : Nat} {e : TypeId} {c n n' g : Nat} {v v' : Value} {xs xs' : List Value} {R : List Row} (h : Owns wr B (⟨e, c, v, n, xs⟩ :: R)) (nd : (blocksOf (⟨e, c, v, n, xs⟩ :: R)).Nodup) (hb : Below wr.heap.size wr w1)
    (hrow : w2.ownsRow B e c v' n' xs') (hg : w1.grownBy w2 v.ownBlock) (hv' : v'.ownBlock = some g) (hd : v.ownBlock = some g ∨ wr.heap.size ≤ g) : Owns w2 B (⟨e, c, v', n', xs'⟩ :: R) ∧ (blocksOf (⟨e, c, v', n', xs'⟩ :: R)).Nodup := by
  have hR : ∀ b ∈ blocksOf R, b < wr.heap.size ∧ some b ≠ v.ownBlock := by
    intro b hb'
    refine ⟨(owns_lt h.tail b hb').2, fun e => ?_⟩
    have h1 := nd
    unfold blocksOf at h1
    rw [List.filterMap_cons] at h1
    simp only [← e] at h1
    exact (List.nodup_cons.1 h1).1 hb'
  have hO : Owns w2 B R := (h.tail.below hb).keep fun b hb' => hg.block b (Nat.lt_of_lt_of_le (hR b hb').1 hb.size) (hR b hb').2
  refine ⟨fun r hr => ?_, ?_⟩
  · rcases List.mem_cons.1 hr with rfl | hr
    · exact hrow
    · exact hO r hr
  · unfold blocksOf
    rw [List.filterMap_cons]
    simp only [hv']
    have ndR : (blocksOf R).Nodup := nd.sublist (blocks_sub (List.sublist_cons_self _ _))
    refine List.nodup_cons.2 ⟨fun hc => ?_, ndR⟩
    have h1 := hR g hc
    rcases hd with hd | hd
    · exact h1.2 hd.symm
    · omega

theorem sub_flat {α β : Type} (f : α → List β) {a b : List α} (h : a.Sublist b) : (a.flatMap f).Sublist (b.flatMap f) := by
  induction h with
  | slnil => exact List.Sublist.refl _
  | cons x _ ih => rw [List.flatMap_cons]; exact ih.trans (List.sublist_append_right _ _)
  | cons_cons x _ ih => rw [List.flatMap_cons, List.flatMap_cons]; exact List.Sublist.append_left ih _
/-- The rows of a document whose fields lie apart, in part. -/
theorem own_apart {w : World} {B : Nat} {k n : Int} {s : ByteArray} {la da da' : Option Addr} {lc dc dc' : Nat} {l : List T} {d fs : List (ByteArray × T)}
    (h : Owns w B (⟨52, 6, .slice da' fs.length dc', fs.length, fs.flatMap fcells⟩ :: T.rows (.mk k n s la lc l da dc d))) (nd : (blocksOf (⟨52, 6, .slice da' fs.length dc', fs.length, fs.flatMap fcells⟩ :: T.rows (.mk k n s la lc l da dc d))).Nodup)
    (ok : T.ok (.mk k n s la lc l da dc d)) (hs : fs.Sublist d) (hc : fs.length ≤ dc' ∧ dc' ≤ 9223372036854775807) (hn : da' = none → dc' = 0) : T.Own w B (.mk k n s la lc l da' dc' fs) := by
  rw [rows_mk] at h nd
  have hsub : ((⟨52, 6, .slice da' fs.length dc', fs.length, fs.flatMap fcells⟩ :: ⟨31, 5, .slice la l.length lc, l.length, l.flatMap T.cells⟩ :: (l.flatMap T.rows ++ fs.flatMap fun f => f.2.rows)) : List Row).Sublist
      (⟨52, 6, .slice da' fs.length dc', fs.length, fs.flatMap fcells⟩ :: ⟨31, 5, .slice la l.length lc, l.length, l.flatMap T.cells⟩ :: ⟨52, 6, .slice da d.length dc, d.length, d.flatMap fcells⟩ :: (l.flatMap T.rows ++ d.flatMap fun f => f.2.rows)) :=
    (((List.Sublist.append_left (sub_flat _ hs) _).cons _).cons_cons _).cons_cons _
  have hp : ((T.rows (.mk k n s la lc l da' dc' fs)) : List Row).Perm (⟨52, 6, .slice da' fs.length dc', fs.length, fs.flatMap fcells⟩ :: ⟨31, 5, .slice la l.length lc, l.length, l.flatMap T.cells⟩ :: (l.flatMap T.rows ++ fs.flatMap fun f => f.2.rows)) := by
    rw [rows_mk]
    exact List.Perm.swap _ _ _
  refine ⟨?_, fun r hr => h r (hsub.subset (hp.mem_iff.1 hr)), (hp.filterMap (fun r : Row => r.v.ownBlock)).nodup_iff.2 (nd.sublist (blocks_sub hsub))⟩
  simp only [T.ok, T.okL_iff, T.okD_iff] at ok ⊢
  obtain ⟨q1, q2, q3, q4, q5, q6, q7, q8, q9, q10, q11⟩ := ok
  have := hs.length_le
  unfold okFar at q8
  exact ⟨q1, q2, q3, q4, q5, q6, hc, by unfold okFar; omega, hn, q10, fun f hf => q11 f (hs.subset hf)⟩

structure RORel (w wr : World) (g : Nat) (A : List Value) (n : Int) (s : ByteArray) (la : Option Addr) (lc : Nat) (l : List T) (da : Option Addr) (dc : Nat) (d : List (ByteArray × T)) (da' : Option Addr) (dc' : Nat) (fs : List (ByteArray × T)) : Prop where
  below : Below w.heap.size w wr
  old : w.heap.size + 2 ≤ g ∧ (∀ b ∈ blocksOf (T.rows (.mk 5 n s la lc l da dc d)), b < g) ∧ (∀ b, (Value.slice da' fs.length dc').ownBlock = some b → g + 2 ≤ b)
  boxR : wr.heap[w.heap.size + 1]? = some (.cells #[.int .i64 0, .int .i64 0, .string ⟨#[]⟩, .slice none 0 0, .slice none 0 0] 31 (0, 0))
  boxV : wr.heap[w.heap.size]? = some (.cells A.toArray 31 (0, 0))
  boxA : wr.heap[g]? = some (.cells #[.int .i64 5, .int .i64 n, .string s, .slice la l.length lc, .slice da d.length dc] 31 (0, 0))
  boxO : wr.heap[g + 1]? = some (.cells #[.int .i64 5, .int .i64 n, .string s, .slice la l.length lc, .slice da' fs.length dc'] 31 (0, 0))
  owns : Owns wr (w.heap.size + 2) (⟨52, 6, .slice da' fs.length dc', fs.length, fs.flatMap fcells⟩ :: T.rows (.mk 5 n s la lc l da dc d))
  nodup : (blocksOf (⟨52, 6, .slice da' fs.length dc', fs.length, fs.flatMap fcells⟩ :: T.rows (.mk 5 n s la lc l da dc d))).Nodup

theorem ro_start {w w1 : World} {A : List Value} {n : Int} {s : ByteArray} {la : Option Addr} {lc : Nat} {l : List T} {da : Option Addr} {dc : Nat} {d : List (ByteArray × T)}
    (b1 : Below ((w.alloc (.cells A.toArray 31)).alloc (.cells #[.int .i64 0, .int .i64 0, .string ⟨#[]⟩, .slice none 0 0, .slice none 0 0] 31)).heap.size ((w.alloc (.cells A.toArray 31)).alloc (.cells #[.int .i64 0, .int .i64 0, .string ⟨#[]⟩, .slice none 0 0, .slice none 0 0] 31)) w1)
    (ho : T.Own w1 (w.heap.size + 2) (.mk 5 n s la lc l da dc d)) :
    RORel w ((w1.alloc (.cells #[.int .i64 5, .int .i64 n, .string s, .slice la l.length lc, .slice da d.length dc] 31)).alloc (.cells #[.int .i64 5, .int .i64 n, .string s, .slice la l.length lc, .slice none 0 0] 31)) w1.heap.size A n s la lc l da dc d none 0 [] := by
  have z1 : w.heap.size + 2 ≤ w1.heap.size := by have := b1.size; simpa using this
  have B2 := below2 w1 (.cells #[.int .i64 5, .int .i64 n, .string s, .slice la l.length lc, .slice da d.length dc] 31) (.cells #[.int .i64 5, .int .i64 n, .string s, .slice la l.length lc, .slice none 0 0] 31)
  have ho2 := ho.owns.below B2
  refine ⟨below_then (below_then (below2 _ _ _) b1) B2, ⟨z1, fun b hb => (owns_lt ho.owns b hb).2, by simp [Value.ownBlock]⟩, row_then (row_then (heap_alloc_at _ _ _ (by simp)) b1) B2, row_then (row_then (row_then (heap_alloc_new _ _) (below1 _ _)) b1) B2, row_then (heap_alloc_new _ _) (below1 _ _), heap_alloc_at _ _ _ (by simp), fun r hr => ?_, ?_⟩
  · rcases List.mem_cons.1 hr with rfl | hr
    · exact World.ownsRow_nil _ _ _ _
    · exact ho2 r hr
  · exact ho.nodup

theorem ro_step {w wr w1 w2 : World} {g : Nat} {A : List Value} {n : Int} {s : ByteArray} {la : Option Addr} {lc : Nat} {l : List T} {da : Option Addr} {dc : Nat} {d : List (ByteArray × T)} {da' : Option Addr} {dc' : Nat} {fs : List (ByteArray × T)} {f : ByteArray × T} {h cap : Nat}
    (R : RORel w wr g A n s la lc l da dc d da' dc' fs) (hb : Below wr.heap.size wr w1) (hrow : w2.ownsRow (w.heap.size + 2) 52 6 (.slice (some ⟨h, 0, none⟩) (fs.length + 1) cap) (fs.length + 1) (fs.flatMap fcells ++ fcells f)) (hg : w1.grownBy w2 (Value.slice da' fs.length dc').ownBlock)
    (hd : (Value.slice da' fs.length dc').ownBlock = some h ∨ h = w1.heap.size) :
    RORel w (w2.setCell ⟨g + 1, 4, none⟩ (.slice (some ⟨h, 0, none⟩) (fs.length + 1) cap)) g A n s la lc l da dc d (some ⟨h, 0, none⟩) cap (fs ++ [f]) := by
  obtain ⟨h1, ⟨h2, h3, h4⟩, h5, h6, h7, h8, h9, h10⟩ := R
  have hgw : g + 1 < wr.heap.size := lt_of_block h8
  have hwz := hb.size
  have hh : g + 2 ≤ h := by
    rcases hd with hd | hd
    · exact h4 h hd
    · omega
  obtain ⟨o2, n2⟩ := owns_grow (g := h) h9 h10 hb hrow hg rfl (hd.imp id (fun e => by omega))
  have ho : Only (Value.slice da' fs.length dc').ownBlock.toList wr w2 := (Only.of_below hb).trans (Only.of_grow hg)
  have hno : ∀ b, b < g + 2 → b ∉ (Value.slice da' fs.length dc').ownBlock.toList := fun b hb' hc => by have := h4 b (by simpa using hc); omega
  have hs := (Only.refl [g + 1] w2).setCell (p := ⟨g + 1, 4, none⟩) (.inl (by simp)) (.slice (some ⟨h, 0, none⟩) (fs.length + 1) cap)
  have hnr : ∀ b ∈ blocksOf (⟨52, 6, .slice (some ⟨h, 0, none⟩) (fs.length + 1) cap, fs.length + 1, fs.flatMap fcells ++ fcells f⟩ :: T.rows (.mk 5 n s la lc l da dc d)), b ∉ [g + 1] := by
    intro b hb' hc
    simp only [List.mem_singleton] at hc
    subst hc
    have e1 : blocksOf (⟨52, 6, .slice (some ⟨h, 0, none⟩) (fs.length + 1) cap, fs.length + 1, fs.flatMap fcells ++ fcells f⟩ :: T.rows (.mk 5 n s la lc l da dc d)) = h :: blocksOf (T.rows (.mk 5 n s la lc l da dc d)) := by
      simp only [blocksOf, List.filterMap_cons (l := T.rows _), Value.ownBlock]
    rw [e1] at hb'
    rcases List.mem_cons.1 hb' with hb' | hb'
    · omega
    · have := h3 _ hb'; omega
  have e2 : (⟨52, 6, .slice (some ⟨h, 0, none⟩) (fs ++ [f]).length cap, (fs ++ [f]).length, (fs ++ [f]).flatMap fcells⟩ : Row) = ⟨52, 6, .slice (some ⟨h, 0, none⟩) (fs.length + 1) cap, fs.length + 1, fs.flatMap fcells ++ fcells f⟩ := by simp
  have k1 : ∀ b, b < g + 2 → b < wr.heap.size → w2.heap[b]? = wr.heap[b]? := fun b hb1 hb2 => ho.block b hb2 (hno b hb1)
  have k2 : ∀ b, b < g + 1 → (w2.setCell ⟨g + 1, 4, none⟩ (.slice (some ⟨h, 0, none⟩) (fs.length + 1) cap)).heap[b]? = wr.heap[b]? := fun b hb1 => (hs.block b (by have := ho.size; omega) (by simp; omega)).trans (k1 b (by omega) (by omega))
  refine ⟨(((Only.of_below (S := []) h1).then_ ho (fun i hi => .inr (by have := h4 i (by simpa using hi); omega))).then_ hs (by simp; omega)).below, ⟨h2, h3, fun b hb' => ?_⟩, (k2 _ (by omega)).trans h5, (k2 _ (by omega)).trans h6, (k2 _ (by omega)).trans h7, ?_, ?_, ?_⟩
  · simp only [Value.ownBlock, Option.some.injEq] at hb'; omega
  · have := heap_setCell_same w2 (g + 1) 4 _ _ (.slice (some ⟨h, 0, none⟩) (fs.length + 1) cap) ((k1 (g + 1) (by omega) hgw).trans h8)
    simpa using this
  · rw [e2]; exact o2.only hs hnr
  · rw [e2]; exact n2

theorem below_drew1 (w : World) (Y : Obj) : Below w.heap.size w ((w.drew).alloc Y) := ((Below.refl _ w).drew).alloc (Nat.le_refl _) Y
theorem ro_cells {w wr w1 w2 : World} {g : Nat} {A : List Value} {n : Int} {s : ByteArray} {la : Option Addr} {lc : Nat} {l : List T} {da : Option Addr} {dc : Nat} {d : List (ByteArray × T)} {da' : Option Addr} {dc' : Nat} {fs : List (ByteArray × T)}
    (R : RORel w wr g A n s la lc l da dc d da' dc' fs) (hb : Below wr.heap.size wr w1) (hg : w1.grownBy w2 (Value.slice da' fs.length dc').ownBlock) :
    (∀ o, w2.cell? ⟨g + 1, o, none⟩ = (#[.int .i64 5, .int .i64 n, .string s, .slice la l.length lc, .slice da' fs.length dc'] : Array Value)[o]?) ∧ ∀ o, w2.frozen? ⟨g + 1, o, none⟩ = false := by
  have ho : Only (Value.slice da' fs.length dc').ownBlock.toList wr w2 := (Only.of_below hb).trans (Only.of_grow hg)
  have h := keep_row ho R.boxO (fun hc => by have := R.old.2.2 _ (by simpa using hc); omega)
  exact ⟨row_cells h, fun o => frozen_of_row _ _ _ _ _ h⟩
theorem filter_step {d : List (ByteArray × T)} {s : ByteArray} {k : Nat} {x : ByteArray × T} (hx : d[k]? = some x) : (d.take (k + 1)).filter (fun f => other s f.1) = (d.take k).filter (fun f => other s f.1) ++ if other s x.1 then [x] else [] := by
  rw [List.take_add_one, hx, List.filter_append]
  simp only [Option.toList_some, List.filter_cons, List.filter_nil]
theorem filter_no {d : List (ByteArray × T)} {s : ByteArray} {k : Nat} {x : ByteArray × T} (hx : d[k]? = some x) (h : other s x.1 = false) : (d.take (k + 1)).filter (fun f => other s f.1) = (d.take k).filter (fun f => other s f.1) := by
  rw [filter_step hx, h]; simp
theorem filter_yes {d : List (ByteArray × T)} {s : ByteArray} {k : Nat} {x : ByteArray × T} (hx : d[k]? = some x) (h : other s x.1 = true) : (d.take (k + 1)).filter (fun f => other s f.1) = (d.take k).filter (fun f => other s f.1) ++ [x] := by
  rw [filter_step hx, h]; simp
theorem filter_map_other (d : List (ByteArray × T)) (s : ByteArray) : ((d.filter fun f => other s f.1).map fun f => (f.1, f.2.val)) = (d.map fun f => (f.1, f.2.val)).filter fun f => other s f.1 := by
  rw [List.filter_map]
  rfl

end Go.Proofs.YtkklnfihjikilaaDoor
