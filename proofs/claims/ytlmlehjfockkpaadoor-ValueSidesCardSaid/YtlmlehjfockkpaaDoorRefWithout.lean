/- The contract of the document's own Without: no statement is proved here. -/
import Derived.Test.YtlmlehjfockkpaaDoorRefWith
namespace Go.Proofs.YtlmlehjfockkpaaDoor
open Go.RowKit
set_option maxRecDepth 100000

/-- Is a field's name another one? -/
def other (s : ByteArray) (f : ByteArray) : Bool := !(f.toList == s.toList)
def withoutV : V → ByteArray → V
  | .mk k n t l d, s => if k = 5 then .mk 5 n t l (d.filter fun f => other s f.1) else zeroV

/-- Rows of which the first has grown. -/
theorem owns_grow {wr w1 w2 : World} {B : Nat} {e : TypeId} {c n n' g : Nat} {v v' : Value} {xs xs' : List Value} {R : List Row} (h : Owns wr B (⟨e, c, v, n, xs⟩ :: R)) (nd : (blocksOf (⟨e, c, v, n, xs⟩ :: R)).Nodup) (hb : Below wr.heap.size wr w1)
    (hrow : w2.ownsRow B e c v' n' xs') (hg : w1.grownBy w2 v.ownBlock) (hv' : v'.ownBlock = some g) (hd : v.ownBlock = some g ∨ wr.heap.size ≤ g) : Owns w2 B (⟨e, c, v', n', xs'⟩ :: R) ∧ (blocksOf (⟨e, c, v', n', xs'⟩ :: R)).Nodup := by
  have hR : ∀ b ∈ blocksOf R, b < wr.heap.size ∧ some b ≠ v.ownBlock := by
    intro b hb'
    refine ⟨(owns_lt h.tail b hb').2, fun e => ?_⟩
    have h1 := nd
    unfold blocksOf at h1
    rw [List.filterMap_cons] at h1
    simp only [← e] at h1
    exact (List.nodup_cons.1 h1).1 hb'
  have hO : Owns w2 B R := (h.tail.below hb).keep fun b hb' => hg.block b (Nat.lt_of_lt_of_le (hR b hb').1 hb.size) (hR b hb').2
  refine ⟨fun r hr => ?_, ?_⟩
  · rcases List.mem_cons.1 hr with rfl | hr
    · exact hrow
    · exact hO r hr
  · unfold blocksOf
    rw [List.filterMap_cons]
    simp only [hv']
    have ndR : (blocksOf R).Nodup := nd.sublist (blocks_sub (List.sublist_cons_self _ _))
    refine List.nodup_cons.2 ⟨fun hc => ?_, ndR⟩
    have h1 := hR g hc
    rcases hd with hd | hd
    · exact h1.2 hd.symm
    · omega

theorem sub_flat {α β : Type} (f : α → List β) {a b : List α} (h : a.Sublist b) : (a.flatMap f).Sublist (b.flatMap f) := by
  induction h with
  | slnil => exact List.Sublist.refl _
  | cons x _ ih => rw [List.flatMap_cons]; exact ih.trans (List.sublist_append_right _ _)
  | cons_cons x _ ih => rw [List.flatMap_cons, List.flatMap_cons]; exact List.Sublist.append_left ih _
/-- The rows of a document whose fields lie apart, in part. -/
theorem own_apart {w : World} {B : Nat} {k n : Int} {s : ByteArray} {la da da' : Option Addr} {lc dc dc' : Nat} {l : List T} {d fs : List (ByteArray × T)}
    (h : Owns w B (⟨63, 6, .slice da' fs.length dc', fs.length, fs.flatMap fcells⟩ :: T.rows (.mk k n s la lc l da dc d))) (nd : (blocksOf (⟨63, 6, .slice da' fs.length dc', fs.length, fs.flatMap fcells⟩ :: T.rows (.mk k n s la lc l da dc d))).Nodup)
    (ok : T.ok (.mk k n s la lc l da dc d)) (hs : fs.Sublist d) (hc : fs.length ≤ dc' ∧ dc' ≤ 9223372036854775807) (hn : da' = none → dc' = 0) : T.Own w B (.mk k n s la lc l da' dc' fs) := by
  rw [rows_mk] at h nd
  have hsub : ((⟨63, 6, .slice da' fs.length dc', fs.length, fs.flatMap fcells⟩ :: ⟨25, 5, .slice la l.length lc, l.length, l.flatMap T.cells⟩ :: (l.flatMap T.rows ++ fs.flatMap fun f => f.2.rows)) : List Row).Sublist
      (⟨63, 6, .slice da' fs.length dc', fs.length, fs.flatMap fcells⟩ :: ⟨25, 5, .slice la l.length lc, l.length, l.flatMap T.cells⟩ :: ⟨63, 6, .slice da d.length dc, d.length, d.flatMap fcells⟩ :: (l.flatMap T.rows ++ d.flatMap fun f => f.2.rows)) :=
    (((List.Sublist.append_left (sub_flat _ hs) _).cons _).cons_cons _).cons_cons _
  have hp : ((T.rows (.mk k n s la lc l da' dc' fs)) : List Row).Perm (⟨63, 6, .slice da' fs.length dc', fs.length, fs.flatMap fcells⟩ :: ⟨25, 5, .slice la l.length lc, l.length, l.flatMap T.cells⟩ :: (l.flatMap T.rows ++ fs.flatMap fun f => f.2.rows)) := by
    rw [rows_mk]
    exact List.Perm.swap _ _ _
  refine ⟨?_, fun r hr => h r (hsub.subset (hp.mem_iff.1 hr)), (hp.filterMap (fun r : Row => r.v.ownBlock)).nodup_iff.2 (nd.sublist (blocks_sub hsub))⟩
  simp only [T.ok, T.okL_iff, T.okD_iff] at ok ⊢
  obtain ⟨q1, q2, q3, q4, q5, q6, q7, q8, q9, q10, q11⟩ := ok
  have := hs.length_le
  unfold okFar at q8
  exact ⟨q1, q2, q3, q4, q5, q6, hc, by unfold okFar; omega, hn, q10, fun f hf => q11 f (hs.subset hf)⟩

structure RORel (w wr : World) (g : Nat) (A : List Value) (n : Int) (s : ByteArray) (la : Option Addr) (lc : Nat) (l : List T) (da : Option Addr) (dc : Nat) (d : List (ByteArray × T)) (da' : Option Addr) (dc' : Nat) (fs : List (ByteArray × T)) : Prop where
  below : Below w.heap.size w wr
  old : w.heap.size + 2 ≤ g ∧ (∀ b ∈ blocksOf (T.rows (.mk 5 n s la lc l da dc d)), b < g) ∧ (∀ b, (Value.slice da' fs.length dc').ownBlock = some b → g + 2 ≤ b)
  boxR : wr.heap[w.heap.size + 1]? = some (.cells #[.int .i64 0, .int .i64 0, .string ⟨#[]⟩, .slice none 0 0, .slice none 0 0] 25 (0, 0))
  boxV : wr.heap[w.heap.size]? = some (.cells A.toArray 25 (0, 0))
  boxA : wr.heap[g]? = some (.cells #[.int .i64 5, .int .i64 n, .string s, .slice la l.length lc, .slice da d.length dc] 25 (0, 0))
  boxO : wr.heap[g + 1]? = some (.cells #[.int .i64 5, .int .i64 n, .string s, .slice la l.length lc, .slice da' fs.length dc'] 25 (0, 0))
  owns : Owns wr (w.heap.size + 2) (⟨63, 6, .slice da' fs.length dc', fs.length, fs.flatMap fcells⟩ :: T.rows (.mk 5 n s la lc l da dc d))
  nodup : (blocksOf (⟨63, 6, .slice da' fs.length dc', fs.length, fs.flatMap fcells⟩ :: T.rows (.mk 5 n s la lc l da dc d))).Nodup

theorem ro_start {w w1 : World} {A : List Value} {n : Int} {s : ByteArray} {la : Option Addr} {lc : Nat} {l : List T} {da : Option Addr} {dc : Nat} {d : List (ByteArray × T)}
    (b1 : Below ((w.alloc (.cells A.toArray 25)).alloc (.cells #[.int .i64 0, .int .i64 0, .string ⟨#[]⟩, .slice none 0 0, .slice none 0 0] 25)).heap.size ((w.alloc (.cells A.toArray 25)).alloc (.cells #[.int .i64 0, .int .i64 0, .string ⟨#[]⟩, .slice none 0 0, .slice none 0 0] 25)) w1)
    (ho : T.Own w1 (w.heap.size + 2) (.mk 5 n s la lc l da dc d)) :
    RORel w ((w1.alloc (.cells #[.int .i64 5, .int .i64 n, .string s, .slice la l.length lc, .slice da d.length dc] 25)).alloc (.cells #[.int .i64 5, .int .i64 n, .string s, .slice la l.length lc, .slice none 0 0] 25)) w1.heap.size A n s la lc l da dc d none 0 [] := by
  have z1 : w.heap.size + 2 ≤ w1.heap.size := by have := b1.size; simpa using this
  have B2 := below2 w1 (.cells #[.int .i64 5, .int .i64 n, .string s, .slice la l.length lc, .slice da d.length dc] 25) (.cells #[.int .i64 5, .int .i64 n, .string s, .slice la l.length lc, .slice none 0 0] 25)
  have ho2 := ho.owns.below B2
  refine ⟨below_then (below_then (below2 _ _ _) b1) B2, ⟨z1, fun b hb => (owns_lt ho.owns b hb).2, by simp [Value.ownBlock]⟩, row_then (row_then (heap_alloc_at _ _ _ (by simp)) b1) B2, row_then (row_then (row_then (heap_alloc_new _ _) (below1 _ _)) b1) B2, row_then (heap_alloc_new _ _) (below1 _ _), heap_alloc_at _ _ _ (by simp), fun r hr => ?_, ?_⟩
  · rcases List.mem_cons.1 hr with rfl | hr
    · exact World.ownsRow_nil _ _ _ _
    · exact ho2 r hr
  · exact ho.nodup

theorem ro_step {w wr w1 w2 : World} {g : Nat} {A : List Value} {n : Int} {s : ByteArray} {la : Option Addr} {lc : Nat} {l : List T} {da : Option Addr} {dc : Nat} {d : List (ByteArray × T)} {da' : Option Addr} {dc' : Nat} {fs : List (ByteArray × T)} {f : ByteArray × T} {h cap : Nat}
    (R : RORel w wr g A n s la lc l da dc d da' dc' fs) (hb : Below wr.heap.size wr w1) (hrow : w2.ownsRow (w.heap.size + 2) 63 6 (.slice (some ⟨h, 0, none⟩) (fs.length + 1) cap) (fs.length + 1) (fs.flatMap fcells ++ fcells f)) (hg : w1.grownBy w2 (Value.slice da' fs.length dc').ownBlock)
    (hd : (Value.slice da' fs.length dc').ownBlock = some h ∨ h = w1.heap.size) :
    RORel w (w2.setCell ⟨g + 1, 4, none⟩ (.slice (some ⟨h, 0, none⟩) (fs.length + 1) cap)) g A n s la lc l da dc d (some ⟨h, 0, none⟩) cap (fs ++ [f]) := by
  obtain ⟨h1, ⟨h2, h3, h4⟩, h5, h6, h7, h8, h9, h10⟩ := R
  have hgw : g + 1 < wr.heap.size := lt_of_block h8
  have hwz := hb.size
  have hh : g + 2 ≤ h := by
    rcases hd with hd | hd
    · exact h4 h hd
    · omega
  obtain ⟨o2, n2⟩ := owns_grow (g := h) h9 h10 hb hrow hg rfl (hd.imp id (fun e => by omega))
  have ho : Only (Value.slice da' fs.length dc').ownBlock.toList wr w2 := (Only.of_below hb).trans (Only.of_grow hg)
  have hno : ∀ b, b < g + 2 → b ∉ (Value.slice da' fs.length dc').ownBlock.toList := fun b hb' hc => by have := h4 b (by simpa using hc); omega
  have hs := (Only.refl [g + 1] w2).setCell (p := ⟨g + 1, 4, none⟩) (.inl (by simp)) (.slice (some ⟨h, 0, none⟩) (fs.length + 1) cap)
  have hnr : ∀ b ∈ blocksOf (⟨63, 6, .slice (some ⟨h, 0, none⟩) (fs.length + 1) cap, fs.length + 1, fs.flatMap fcells ++ fcells f⟩ :: T.rows (.mk 5 n s la lc l da dc d)), b ∉ [g + 1] := by
    intro b hb' hc
    simp only [List.mem_singleton] at hc
    subst hc
    have e1 : blocksOf (⟨63, 6, .slice (some ⟨h, 0, none⟩) (fs.length + 1) cap, fs.length + 1, fs.flatMap fcells ++ fcells f⟩ :: T.rows (.mk 5 n s la lc l da dc d)) = h :: blocksOf (T.rows (.mk 5 n s la lc l da dc d)) := by
      simp only [blocksOf, List.filterMap_cons (l := T.rows _), Value.ownBlock]
    rw [e1] at hb'
    rcases List.mem_cons.1 hb' with hb' | hb'
    · omega
    · have := h3 _ hb'; omega
  have e2 : (⟨63, 6, .slice (some ⟨h, 0, none⟩) (fs ++ [f]).length cap, (fs ++ [f]).length, (fs ++ [f]).flatMap fcells⟩ : Row) = ⟨63, 6, .slice (some ⟨h, 0, none⟩) (fs.length + 1) cap, fs.length + 1, fs.flatMap fcells ++ fcells f⟩ := by simp
  have k1 : ∀ b, b < g + 2 → b < wr.heap.size → w2.heap[b]? = wr.heap[b]? := fun b hb1 hb2 => ho.block b hb2 (hno b hb1)
  have k2 : ∀ b, b < g + 1 → (w2.setCell ⟨g + 1, 4, none⟩ (.slice (some ⟨h, 0, none⟩) (fs.length + 1) cap)).heap[b]? = wr.heap[b]? := fun b hb1 => (hs.block b (by have := ho.size; omega) (by simp; omega)).trans (k1 b (by omega) (by omega))
  refine ⟨(((Only.of_below (S := []) h1).then_ ho (fun i hi => .inr (by have := h4 i (by simpa using hi); omega))).then_ hs (by simp; omega)).below, ⟨h2, h3, fun b hb' => ?_⟩, (k2 _ (by omega)).trans h5, (k2 _ (by omega)).trans h6, (k2 _ (by omega)).trans h7, ?_, ?_, ?_⟩
  · simp only [Value.ownBlock, Option.some.injEq] at hb'; omega
  · have := heap_setCell_same w2 (g + 1) 4 _ _ (.slice (some ⟨h, 0, none⟩) (fs.length + 1) cap) ((k1 (g + 1) (by omega) hgw).trans h8)
    simpa using this
  · rw [e2]; exact o2.only hs hnr
  · rw [e2]; exact n2

theorem below_drew1 (w : World) (Y : Obj) : Below w.heap.size w ((w.drew).alloc Y) := ((Below.refl _ w).drew).alloc (Nat.le_refl _) Y
theorem ro_cells {w wr w1 w2 : World} {g : Nat} {A : List Value} {n : Int} {s : ByteArray} {la : Option Addr} {lc : Nat} {l : List T} {da : Option Addr} {dc : Nat} {d : List (ByteArray × T)} {da' : Option Addr} {dc' : Nat} {fs : List (ByteArray × T)}
    (R : RORel w wr g A n s la lc l da dc d da' dc' fs) (hb : Below wr.heap.size wr w1) (hg : w1.grownBy w2 (Value.slice da' fs.length dc').ownBlock) :
    (∀ o, w2.cell? ⟨g + 1, o, none⟩ = (#[.int .i64 5, .int .i64 n, .string s, .slice la l.length lc, .slice da' fs.length dc'] : Array Value)[o]?) ∧ ∀ o, w2.frozen? ⟨g + 1, o, none⟩ = false := by
  have ho : Only (Value.slice da' fs.length dc').ownBlock.toList wr w2 := (Only.of_below hb).trans (Only.of_grow hg)
  have h := keep_row ho R.boxO (fun hc => by have := R.old.2.2 _ (by simpa using hc); omega)
  exact ⟨row_cells h, fun o => frozen_of_row _ _ _ _ _ h⟩
theorem filter_step {d : List (ByteArray × T)} {s : ByteArray} {k : Nat} {x : ByteArray × T} (hx : d[k]? = some x) : (d.take (k + 1)).filter (fun f => other s f.1) = (d.take k).filter (fun f => other s f.1) ++ if other s x.1 then [x] else [] := by
  rw [List.take_add_one, hx, List.filter_append]
  simp only [Option.toList_some, List.filter_cons, List.filter_nil]
theorem filter_no {d : List (ByteArray × T)} {s : ByteArray} {k : Nat} {x : ByteArray × T} (hx : d[k]? = some x) (h : other s x.1 = false) : (d.take (k + 1)).filter (fun f => other s f.1) = (d.take k).filter (fun f => other s f.1) := by
  rw [filter_step hx, h]; simp
theorem filter_yes {d : List (ByteArray × T)} {s : ByteArray} {k : Nat} {x : ByteArray × T} (hx : d[k]? = some x) (h : other s x.1 = true) : (d.take (k + 1)).filter (fun f => other s f.1) = (d.take k).filter (fun f => other s f.1) ++ [x] := by
  rw [filter_step hx, h]; simp
theorem filter_map_other (d : List (ByteArray × T)) (s : ByteArray) : ((d.filter fun f => other s f.1).map fun f => (f.1, f.2.val)) = (d.map fun f => (f.1, f.2.val)).filter fun f => other s f.1 := by
  rw [List.filter_map]
  rfl

set_option maxHeartbeats 4000000 in
theorem refWithout_any (t : T) (s : ByteArray) (w : World) (ok : t.ok) (hin : t.In w) :
    Calls Tryd.prog 29 #[t.arg, .string s] w (WithTo (withoutV t.val s) w) := by
  obtain ⟨i1, hi1, hy0, hy1, hy2⟩ := info_parts info_field
  have I1 := Lib.hid (And.intro hi1 (And.intro hy0 (And.intro hy1 hy2)))
  clear hi1 hy0 hy1 hy2
  have HC := Lib.hid (refClone_any t ok)
  have HI := Lib.hid hin
  obtain ⟨kt, nt, st, lat, lct, lt, dat, dct, dt⟩ := t
  clear ok hin
  show Calls _ _ #[.agg #[.int .i64 kt, .int .i64 nt, .string st, .slice lat lt.length lct, .slice dat dt.length dct], .string s] _ _
  by_cases k5 : kt = 5
  · subst k5
    have HW := Lib.hid (show withoutV (T.mk 5 nt st lat lct lt dat dct dt).val s = .mk 5 nt st (lt.map T.val) ((dt.map fun f => (f.1, f.2.val)).filter fun f => other s f.1) by rw [T.val_mk 5, withoutV, if_pos rfl])
    generalize withoutV (T.mk 5 nt st lat lct lt dat dct dt).val s = W at HW ⊢
    go_enter Tryd.func29, Tryd.ntmps29
    go_wp2_with fail
    refine (HC.out _ (HI.out.then_ (below2 _ _ _))).mono ?_
    rintro e w1 ⟨⟨k', n', s', la', lc', l', da', dc', d'⟩, rfl, hv1, ho1, b1⟩
    dsimp only [T.arg, T.cells]
    rw [T.val_mk, T.val_mk] at hv1
    injection hv1 with e1 e2 e3 vl vd
    subst e1 e2 e3
    have ho1' := ho1.keep (B' := w.heap.size + 2) (Only.refl [] w1) (by simp) (by simp)
    have HR := Lib.hid (ro_start (A := [.int .i64 5, .int .i64 n', .string s', .slice lat lt.length lct, .slice dat dt.length dct]) b1 ho1')
    rw [← vl, ← vd] at HW
    have HOK := Lib.hid ho1.ok
    have z1 : w.heap.size + 2 ≤ w1.heap.size := by have := b1.size; simpa using this
    have hdl := ho1.ok.parts.2.2.2.2.2.2.2.1
    have hdl2 := ho1.ok.parts.2.2.2.2.2.2.2.2.1
    have q0 : ∀ X o, (w1.alloc X).cell? ⟨w.heap.size, o, none⟩ = (#[.int .i64 5, .int .i64 n', .string s', .slice lat lt.length lct, .slice dat dt.length dct] : Array Value)[o]? := fun X => row_cells (row_then (row_then (row_then (heap_alloc_new _ _) (below1 _ _)) b1) (below1 _ X))
    clear vl vd ho1 b1 ho1'
    go_wp2_with fail
    clear q0
    go_loopw [7] (fun i wr => ∃ (k : Nat) (da : Option Addr) (dc : Nat) (fs : List (ByteArray × T)), k ≤ d'.length ∧ i = .int .i64 k ∧ fs = (d'.take k).filter (fun f => other s f.1) ∧ RORel w wr w1.heap.size [.int .i64 5, .int .i64 n', .string s', .slice lat lt.length lct, .slice dat dt.length dct] n' s' la' lc' l' da' dc' d' da dc fs ∧ fs.length ≤ dc ∧ dc ≤ 9223372036854775807 ∧ (da = none → dc = 0)) (fun i _ => d'.length - (intOf i).toNat)
    case atStart => exact ⟨0, none, 0, [], by omega, rfl, by simp, HR.out, by simp, by simp, by simp⟩
    case round =>
      clear HR
      obtain ⟨k, da, dc, fs, hk, rfl, hfs, R, hc1, hc2, hc3⟩ := hrel
      have HR := Lib.hid R
      have HF := Lib.hid hfs
      have H3 := Lib.hid hc3
      have hfl : fs.length ≤ k := by rw [hfs]; exact Nat.le_trans (List.length_filter_le _ _) (by simp; omega)
      have q1 : ∀ o, wr.cell? ⟨w1.heap.size, o, none⟩ = (#[.int .i64 5, .int .i64 n', .string s', .slice la' l'.length lc', .slice da' d'.length dc'] : Array Value)[o]? := row_cells R.boxA
      have hz : w1.heap.size + 1 < wr.heap.size := lt_of_block R.boxO
      clear R hfs hc3
      by_cases h1 : k < d'.length
      · have hin' : InD wr da' d' := (owns_in (.mk 5 n' s' la' lc' l' da' dc' d') HR.out.owns.tail).parts.2
        obtain ⟨b, o, f1, k1, n1, s1, la1, lc1, l1, da1, dc1, d1, rfl, hx, hix, x0, x1, x2, x3, x4, x5⟩ := hin'.six h1
        have HX := Lib.hid hx
        clear hx hin' hix
        by_cases ht : (f1.toList == s.toList) = true
        · have hto : other s f1 = false := by simp only [other, ht, Bool.not_true]
          have HT := Lib.hid (filter_no (s := s) HX.out hto)
          have htn : (!(f1.toList == s.toList)) = false := by simp [ht]
          clear hto
          go_wp2_with fail
          go_roundw
          case rel => exact ⟨k + 1, _, _, fs, by omega, by go_num, by rw [HT.out, HF.out], HR.out, hc1, hc2, H3.out⟩
          case measure => simp [intOf]; omega
        · have htf : (f1.toList == s.toList) = false := by simpa using ht
          have hto : other s f1 = true := by simp only [other, htf, Bool.not_false]
          have HT := Lib.hid (filter_yes (s := s) HX.out hto)
          have htn : (!(f1.toList == s.toList)) = true := by simp [htf]
          clear hto ht
          have j0 : (0 : Int) ≤ (k : Int) := by omega
          have j1 : (k : Int) < (d'.length : Int) := by omega
          have q2 : ∀ o, wr.cell? ⟨w1.heap.size + 1, o, none⟩ = (#[.int .i64 5, .int .i64 n', .string s', .slice la' l'.length lc', .slice da fs.length dc] : Array Value)[o]? := row_cells HR.out.boxO
          go_wp2_with fail
          go_region_law (refine step_append_lies _ rfl (.tmp 39) (.tmp 45) 23 rfl (w.heap.size + 2) 63 i1 _ 6 96 Tryd.underlying23 I1.out.1 I1.out.2.1 I1.out.2.2.1 I1.out.2.2.2 rfl (by decide) (.slice da fs.length dc) fs.length _ (by simp [Act.eval]) ((HR.out.owns.head.drew).alloc _) ⟨wr.heap.size, 0, none⟩ 1 1 [.string f1, .int .i64 k1, .int .i64 n1, .string s1, .slice la1 l1.length lc1, .slice da1 d1.length dc1] (by simp [Act.eval]) rfl (news_at _ _ _ _ (by simp)) (by simp [Value.oneCell']) (by decide) (by unfold maxLen; omega) (by omega) (by simp; omega) _ rfl ?_; intro h cap w2 hown2 hgrow2 hg2 hlt2; have C2 := ro_cells HR.out (below_drew1 _ _) hgrow2; have c2 := C2.1; have f2 := C2.2; clear C2)
          all_goals
            go_wp2_with fail
            have HS := ro_step HR.out (f := (f1, T.mk k1 n1 s1 la1 lc1 l1 da1 dc1 d1)) (below_drew1 _ _) hown2 hgrow2 hg2
            have hcp := cap_of hown2
            have hcq : fs.length + 1 ≤ cap := by
              obtain ⟨_, h2⟩ := hown2
              rcases h2 with ⟨hv, _⟩ | ⟨g', cap', cur, hv, hb, hg, hkc, _⟩
              · cases hv
              · injection hv with _ _ e3; omega
            replace HS := Lib.hid HS
            clear c2 f2
            go_roundw
            case rel => exact ⟨k + 1, _, _, fs ++ [(f1, T.mk k1 n1 s1 la1 lc1 l1 da1 dc1 d1)], by omega, by go_num, by rw [HT.out, HF.out], HS.out, by simpa using hcq, hcp, by simp⟩
            case measure => simp [intOf]; omega
      · have hkl : k = d'.length := by omega
        subst hkl
        have q2 : ∀ o, wr.cell? ⟨w1.heap.size + 1, o, none⟩ = (#[.int .i64 5, .int .i64 n', .string s', .slice la' l'.length lc', .slice da fs.length dc] : Array Value)[o]? := row_cells HR.out.boxO
        have q3 : ∀ o, wr.cell? ⟨w.heap.size + 1, o, none⟩ = (#[.int .i64 0, .int .i64 0, .string ⟨#[]⟩, .slice none 0 0, .slice none 0 0] : Array Value)[o]? := row_cells HR.out.boxR
        have f3 : ∀ o, wr.frozen? ⟨w.heap.size + 1, o, none⟩ = false := fun o => frozen_of_row _ _ _ _ _ HR.out.boxR
        go_wp2_with fail
        refine bodyPost_ret (v := .agg #[.int .i64 5, .int .i64 n', .string s', .slice la' l'.length lc', .slice da fs.length dc]) (by simp [results, Tryd.results29, go_sem, q3]) rfl ?_
        have hsub : fs.Sublist d' := by rw [HF.out, List.take_of_length_le (Nat.le_refl _)]; exact List.filter_sublist
        have HA := own_apart HR.out.owns HR.out.nodup HOK.out hsub ⟨hc1, hc2⟩ H3.out
        have ho5 := only_set5 wr (w.heap.size + 1) (.int .i64 5) (.int .i64 n') (.string s') (.slice la' l'.length lc') (.slice da fs.length dc)
        refine ⟨.mk 5 n' s' la' lc' l' da dc fs, rfl, ?_, HA.keep ho5 (by simp) (by omega), ((Only.of_below (S := []) HR.out.below).then_ ho5 (by simp)).below⟩
        rw [HW.out, T.val_mk, HF.out, List.take_of_length_le (Nat.le_refl _), filter_map_other]
  · have HW := Lib.hid (show withoutV (T.mk kt nt st lat lct lt dat dct dt).val s = zeroV by rw [T.val_mk kt, withoutV, if_neg k5])
    have k5b : ((kt : Int) != 5) = true := by simp [k5]
    go_enter Tryd.func29, Tryd.ntmps29
    go_wp2_with fail
    refine bodyPost_ret (v := zeroT.arg) (by simp [results, Tryd.results29, go_sem, zeroT, T.arg, T.cells]) rfl ⟨zeroT, rfl, by rw [HW.out, zero_val], zero_own _ _, ?_⟩
    exact below2 _ _ _
end Go.Proofs.YtlmlehjfockkpaaDoor
