/- The contract of the document's own Clone: no statement is proved here. -/
import Derived.Test.YtkklnfihjikilaaDoorWith
namespace Go.Proofs.YtkklnfihjikilaaDoor
open Go.RowKit
set_option maxRecDepth 100000

/-- A value whose list and fields grow in three boxes. -/
structure GrowRel (kx nx : Int) (sx : ByteArray) (V0 R0 : List Value) (w wr : World) (la : Option Addr) (lc : Nat) (ts : List T) (da : Option Addr) (dc : Nat) (fs : List (ByteArray × T)) : Prop where
  below : Below w.heap.size w wr
  size : w.heap.size + 3 ≤ wr.heap.size
  box1 : wr.heap[w.heap.size]? = some (.cells V0.toArray 31 (0, 0))
  box2 : wr.heap[w.heap.size + 1]? = some (.cells R0.toArray 31 (0, 0))
  box3 : wr.heap[w.heap.size + 2]? = some (.cells #[.int .i64 kx, .int .i64 nx, .string sx, .slice la ts.length lc, .slice da fs.length dc] 31 (0, 0))
  own : T.Own wr (w.heap.size + 3) (.mk kx nx sx la lc ts da dc fs)

theorem grow_start {kx nx : Int} {sx : ByteArray} {V0 R0 : List Value} {w : World} (hk : okInt kx) (hn : okInt nx) (hs : okLen sx.size) :
    GrowRel kx nx sx V0 R0 w (((w.alloc (.cells V0.toArray 31)).alloc (.cells R0.toArray 31)).alloc (.cells #[.int .i64 kx, .int .i64 nx, .string sx, .slice none 0 0, .slice none 0 0] 31)) none 0 [] none 0 [] := by
  refine ⟨below3 _ _ _ _, by simp, row_then (row_then (heap_alloc_new _ _) (below1 _ _)) (below1 _ _), row_then (heap_alloc_at _ _ _ (by simp)) (below1 _ _), heap_alloc_at _ _ _ (by simp), ?_, fun r hr => ?_, ?_⟩
  · simp only [T.ok, T.okL_iff, T.okD_iff]
    unfold okLen at hs
    simp [hk, hn, okLen, okFar]
    exact hs
  · simp [T.rows, T.rowsL, T.rowsD] at hr
    rcases hr with rfl | rfl <;> exact World.ownsRow_nil _ _ _ _
  · simp [T.rows, T.rowsL, T.rowsD, blocksOf, Value.ownBlock]

theorem grow_box {w wr w1 w2 : World} {kx nx : Int} {sx : ByteArray} {V0 R0 : List Value} {la : Option Addr} {lc : Nat} {ts : List T} {da : Option Addr} {dc : Nat} {fs : List (ByteArray × T)} {row : Option Nat}
    (R : GrowRel kx nx sx V0 R0 w wr la lc ts da dc fs) (hb : Below wr.heap.size wr w1) (hg : w1.grownBy w2 row) (hr : ∀ b, row = some b → w.heap.size + 3 ≤ b) :
    Below w.heap.size w w2 ∧ wr.heap.size ≤ w2.heap.size ∧ w2.heap[w.heap.size]? = wr.heap[w.heap.size]? ∧ w2.heap[w.heap.size + 1]? = wr.heap[w.heap.size + 1]? ∧ w2.heap[w.heap.size + 2]? = wr.heap[w.heap.size + 2]? := by
  have h1 : Only row.toList wr w2 := (Only.of_below hb).trans (Only.of_grow hg)
  have hz := R.size
  have hn : ∀ i, i < 3 → (w.heap.size + i) ∉ row.toList := fun i hi hc => by have := hr _ (by simpa using hc); omega
  exact ⟨((Only.of_below (S := []) R.below).then_ h1 (fun i hi => .inr (by have := hr i (by simpa using hi); omega))).below, h1.size, h1.block _ (by omega) (hn 0 (by omega)), h1.block _ (by omega) (hn 1 (by omega)), h1.block _ (by omega) (hn 2 (by omega))⟩

theorem grow_stepL {w wr w1 w2 : World} {kx nx : Int} {sx : ByteArray} {V0 R0 : List Value} {la : Option Addr} {lc : Nat} {ts : List T} {da : Option Addr} {dc : Nat} {fs : List (ByteArray × T)} {y : T} {g cap : Nat}
    (R : GrowRel kx nx sx V0 R0 w wr la lc ts da dc fs) (hb : Below wr.heap.size wr w1) (hy : y.Own w1 wr.heap.size) (hl : okLen ((ts.length + 1) * 80))
    (hrow : w2.ownsRow (w.heap.size + 3) 31 5 (.slice (some ⟨g, 0, none⟩) (ts.length + 1) cap) (ts.length + 1) (ts.flatMap T.cells ++ y.cells)) (hg : w1.grownBy w2 (Value.slice la ts.length lc).ownBlock) (hd : (Value.slice la ts.length lc).ownBlock = some g ∨ g = w1.heap.size) :
    GrowRel kx nx sx V0 R0 w (w2.setCell ⟨w.heap.size + 2, 3, none⟩ (.slice (some ⟨g, 0, none⟩) (ts.length + 1) cap)) (some ⟨g, 0, none⟩) cap (ts ++ [y]) da dc fs := by
  have G := grow_box R hb hg (fun b hb' => ((own_rowL R.own).lt b hb').1)
  have HA := own_addL R.own hy hb (Nat.le_refl _) R.size hl (cap_of hrow) hrow hg (hd.imp id (fun h => by omega))
  have hz := R.size
  have ho := (Only.refl [w.heap.size + 2] w2).setCell (p := ⟨w.heap.size + 2, 3, none⟩) (.inl (by simp)) (.slice (some ⟨g, 0, none⟩) (ts.length + 1) cap)
  obtain ⟨g1, g2, g3, g4, g5⟩ := G
  refine ⟨((Only.of_below (S := []) g1).then_ ho (by simp)).below, ?_, ?_, ?_, ?_, HA.keep ho (by simp) (Nat.le_refl _)⟩
  · have := ho.size; omega
  · exact (ho.block _ (by omega) (by simp)).trans (g3.trans R.box1)
  · exact (ho.block _ (by omega) (by simp)).trans (g4.trans R.box2)
  · have := heap_setCell_same w2 (w.heap.size + 2) 3 _ _ (.slice (some ⟨g, 0, none⟩) (ts.length + 1) cap) (g5.trans R.box3)
    simpa using this
theorem grow_stepD {w wr w1 w2 : World} {kx nx : Int} {sx : ByteArray} {V0 R0 : List Value} {la : Option Addr} {lc : Nat} {ts : List T} {da : Option Addr} {dc : Nat} {fs : List (ByteArray × T)} {f : ByteArray} {y : T} {g cap : Nat}
    (R : GrowRel kx nx sx V0 R0 w wr la lc ts da dc fs) (hb : Below wr.heap.size wr w1) (hy : y.Own w1 wr.heap.size) (hf : okLen f.size) (hl : okFar ((fs.length + 1) * 96))
    (hrow : w2.ownsRow (w.heap.size + 3) 52 6 (.slice (some ⟨g, 0, none⟩) (fs.length + 1) cap) (fs.length + 1) (fs.flatMap fcells ++ fcells (f, y))) (hg : w1.grownBy w2 (Value.slice da fs.length dc).ownBlock) (hd : (Value.slice da fs.length dc).ownBlock = some g ∨ g = w1.heap.size) :
    GrowRel kx nx sx V0 R0 w (w2.setCell ⟨w.heap.size + 2, 4, none⟩ (.slice (some ⟨g, 0, none⟩) (fs.length + 1) cap)) la lc ts (some ⟨g, 0, none⟩) cap (fs ++ [(f, y)]) := by
  have G := grow_box R hb hg (fun b hb' => ((own_rowD R.own).lt b hb').1)
  have HA := own_addD R.own hy hb (Nat.le_refl _) R.size hf hl (cap_of hrow) hrow hg (hd.imp id (fun h => by omega))
  have hz := R.size
  have ho := (Only.refl [w.heap.size + 2] w2).setCell (p := ⟨w.heap.size + 2, 4, none⟩) (.inl (by simp)) (.slice (some ⟨g, 0, none⟩) (fs.length + 1) cap)
  obtain ⟨g1, g2, g3, g4, g5⟩ := G
  refine ⟨((Only.of_below (S := []) g1).then_ ho (by simp)).below, ?_, ?_, ?_, ?_, HA.keep ho (by simp) (Nat.le_refl _)⟩
  · have := ho.size; omega
  · exact (ho.block _ (by omega) (by simp)).trans (g3.trans R.box1)
  · exact (ho.block _ (by omega) (by simp)).trans (g4.trans R.box2)
  · have := heap_setCell_same w2 (w.heap.size + 2) 4 _ _ (.slice (some ⟨g, 0, none⟩) (fs.length + 1) cap) (g5.trans R.box3)
    simpa using this

def zeroCells : List Value := [.int .i64 0, .int .i64 0, .string ⟨#[]⟩, .slice none 0 0, .slice none 0 0]
theorem grow_alloc {kx nx : Int} {sx : ByteArray} {V0 R0 : List Value} {w wr w1 : World} {la : Option Addr} {lc : Nat} {ts : List T} {da : Option Addr} {dc : Nat} {fs : List (ByteArray × T)} (R : GrowRel kx nx sx V0 R0 w wr la lc ts da dc fs) (hb : Below wr.heap.size wr w1) :
    ∀ o, w1.cell? ⟨w.heap.size + 2, o, none⟩ = (#[.int .i64 kx, .int .i64 nx, .string sx, .slice la ts.length lc, .slice da fs.length dc] : Array Value)[o]? := row_cells (row_then R.box3 hb)
theorem grow_cells {kx nx : Int} {sx : ByteArray} {V0 R0 : List Value} {w wr w1 w2 : World} {la : Option Addr} {lc : Nat} {ts : List T} {da : Option Addr} {dc : Nat} {fs : List (ByteArray × T)} {row : Option Nat} (R : GrowRel kx nx sx V0 R0 w wr la lc ts da dc fs) (hb : Below wr.heap.size wr w1) (hg : w1.grownBy w2 row) (hr : ∀ b, row = some b → w.heap.size + 3 ≤ b) :
    (∀ o, w2.cell? ⟨w.heap.size + 2, o, none⟩ = (#[.int .i64 kx, .int .i64 nx, .string sx, .slice la ts.length lc, .slice da fs.length dc] : Array Value)[o]?) ∧ ∀ o, w2.frozen? ⟨w.heap.size + 2, o, none⟩ = false := by
  obtain ⟨-, -, -, -, h⟩ := grow_box R hb hg hr
  exact ⟨row_cells (h.trans R.box3), fun o => frozen_of_row _ _ _ _ _ (h.trans R.box3)⟩
def RefCloneAt (t : T) : Prop := ∀ w : World, t.In w → Calls Tryd.prog 34 #[t.arg] w (ClonesTo t w)

set_option maxHeartbeats 4000000 in
theorem refClone_any (t : T) : t.ok → RefCloneAt t := by
  induction t using T.ind with
  | h kx nx sx lax lcx lx dax dcx dx ihl ihd =>
  intro ok w hin
  show Calls _ _ #[.agg #[.int .i64 kx, .int .i64 nx, .string sx, .slice lax lx.length lcx, .slice dax dx.length dcx]] _ _
  have HOK := Lib.hid ok
  obtain ⟨-, -, -, -, hs, hl1, hl2, hd1, hd2, okl, okd⟩ := ok.parts
  obtain ⟨i0, hi0, hz0, hz1, hz2⟩ := info_parts info_value
  obtain ⟨i1, hi1, hy0, hy1, hy2⟩ := info_parts info_field
  have IHL := Lib.hid (fun x hx => ihl x hx (okl x hx))
  have IHD := Lib.hid (fun x hx => ihd x hx (okd x hx).2)
  have HIN := Lib.hid hin
  have OKD := Lib.hid okd
  have I0 := Lib.hid (And.intro hi0 (And.intro hz0 (And.intro hz1 hz2)))
  have I1 := Lib.hid (And.intro hi1 (And.intro hy0 (And.intro hy1 hy2)))
  have HG := Lib.hid (grow_start (V0 := [.int .i64 kx, .int .i64 nx, .string sx, .slice lax lx.length lcx, .slice dax dx.length dcx]) (R0 := [.int .i64 0, .int .i64 0, .string ⟨#[]⟩, .slice none 0 0, .slice none 0 0]) (w := w) ⟨ok.parts.1, ok.parts.2.1⟩ ⟨ok.parts.2.2.1, ok.parts.2.2.2.1⟩ hs)
  clear ihl ihd okl okd hin ok hi0 hz0 hz1 hz2 hi1 hy0 hy1 hy2
  go_enter Tryd.func34, Tryd.ntmps34
  go_wp2_with fail
  simp only [Nat.add_assoc, Nat.reduceAdd]
  go_loopw [4, 5] (fun i _ wr => ∃ (k : Nat) (la : Option Addr) (lc : Nat) (ts : List T), k ≤ lx.length ∧ i = .int .i64 k ∧ ts.map T.val = (lx.map T.val).take k ∧ GrowRel kx nx sx [.int .i64 kx, .int .i64 nx, .string sx, .slice lax lx.length lcx, .slice dax dx.length dcx] [.int .i64 0, .int .i64 0, .string ⟨#[]⟩, .slice none 0 0, .slice none 0 0] w wr la lc ts none 0 []) (fun i _ _ => lx.length - (intOf i).toNat)
  case atStart => exact ⟨0, none, 0, [], by omega, rfl, rfl, HG.out⟩
  case round =>
    clear HG
    obtain ⟨k, la, lc, ts, hk, rfl, hv, R⟩ := hrel
    have HR := Lib.hid R
    have q1 : ∀ o, wr.cell? ⟨w.heap.size, o, none⟩ = (#[.int .i64 kx, .int .i64 nx, .string sx, .slice lax lx.length lcx, .slice dax dx.length dcx] : Array Value)[o]? := row_cells R.box1
    have hbel := R.below
    have HV := Lib.hid hv
    have hlen : ts.length = k := by have := congrArg List.length hv; simp at this; omega
    have hz := R.size
    clear R hv
    by_cases h1 : k < lx.length
    · obtain ⟨b, o, k1, n1, s1, la1, lc1, l1, da1, dc1, d1, rfl, hx, hix, x0, x1, x2, x3, x4⟩ := (HIN.out.parts.1.then_ hbel).five h1
      have H := Lib.hid (IHL.out _ (List.mem_of_getElem? hx))
      have HX := Lib.hid hx
      have hle : ts.length + 1 ≤ lx.length := by omega
      clear hx hlen
      go_wp2_with (first
        | (go_at_call 34; refine (H.out _ hix).mono ?_; rintro e w1 ⟨⟨k', n', s', la', lc', l', da', dc', d'⟩, rfl, hv', ho', hb1⟩; dsimp only [T.arg, T.cells]; have HO := Lib.hid ho'; have HV' := Lib.hid hv'; clear hv' ho'; have c1 : ∀ X o, (w1.alloc X).cell? ⟨w.heap.size + 2, o, none⟩ = (#[.int .i64 kx, .int .i64 nx, .string sx, .slice la ts.length lc, .slice none 0 0] : Array Value)[o]? := fun X => grow_alloc HR.out (below_then hb1 (below1 _ X)); have hz1 : w.heap.size + 3 ≤ w1.heap.size := Nat.le_trans hz hb1.size)
        | (at_builtin; refine wpList_append_lies _ rfl (.tmp 29) (.tmp 31) 28 rfl (w.heap.size + 3) 31 i0 _ 5 80 Tryd.underlying28 I0.out.1 I0.out.2.1 I0.out.2.2.1 I0.out.2.2.2 rfl (by decide) (.slice la ts.length lc) ts.length _ rfl (((row_keep (own_rowL HR.out.own) hb1).alloc _).alloc _) _ 1 1 [.int .i64 k', .int .i64 n', .string s', .slice la' l'.length lc', .slice da' d'.length dc'] rfl rfl (news_at _ _ _ _ (by simp)) (by simp [Value.oneCell']) (by decide) (by unfold maxLen; omega) (by omega) (by simp; omega) _ rfl ?_; intro g cap w2 hown2 hgrow2 hg2 hlt2; have C2 := grow_cells HR.out (below_then hb1 (below2 _ _ _)) hgrow2 (fun b hb' => ((own_rowL HR.out.own).lt b hb').1); have c2 := C2.1; have f2 := C2.2; clear C2))
      have HS := grow_stepL HR.out (below_then hb1 (below2 _ _ _)) (HO.out.keep (Only.of_below (S := []) (below2 _ _ _)) (by simp) (Nat.le_refl _)) (by unfold okLen; omega) hown2 hgrow2 hg2
      have HN : (ts ++ [T.mk k' n' s' la' lc' l' da' dc' d']).map T.val = (lx.map T.val).take (k + 1) := by
        rw [List.map_append, HV.out, List.take_add_one, List.getElem?_map, HX.out]
        simp [HV'.out]
      replace HS := Lib.hid (And.intro HN HS)
      clear HN c2 f2
      go_roundw
      case rel => exact ⟨k + 1, _, _, _, by omega, by go_num, HS.out.1, HS.out.2⟩
      case measure => simp [intOf]; omega
    · have hkl : k = lx.length := by omega
      subst hkl
      clear hlen
      go_wp2_with fail
      clear q1 hbel hz
      obtain ⟨wo, rfl⟩ : ∃ wo : World, wo = wr := ⟨_, rfl⟩
      replace HV := Lib.hid (show ts.map T.val = lx.map T.val by rw [HV.out, List.take_of_length_le (by simp)])
      go_loopw [6, 7] (fun i _ wr => ∃ (j : Nat) (da : Option Addr) (dc : Nat) (fs : List (ByteArray × T)), j ≤ dx.length ∧ i = .int .i64 j ∧ (fs.map fun f => (f.1, f.2.val)) = (dx.map fun f => (f.1, f.2.val)).take j ∧ GrowRel kx nx sx [.int .i64 kx, .int .i64 nx, .string sx, .slice lax lx.length lcx, .slice dax dx.length dcx] [.int .i64 0, .int .i64 0, .string ⟨#[]⟩, .slice none 0 0, .slice none 0 0] w wr la lc ts da dc fs) (fun i _ _ => dx.length - (intOf i).toNat)
      case atStart => exact ⟨0, none, 0, [], by omega, rfl, rfl, HR.out⟩
      case round =>
        clear HR
        obtain ⟨j, da, dc, fs, hj, rfl, hv, R⟩ := hrel
        have HR := Lib.hid R
        have q1 : ∀ o, wr.cell? ⟨w.heap.size, o, none⟩ = (#[.int .i64 kx, .int .i64 nx, .string sx, .slice lax lx.length lcx, .slice dax dx.length dcx] : Array Value)[o]? := row_cells R.box1
        have hbel := R.below
        have HVD := Lib.hid hv
        have hlen : fs.length = j := by have := congrArg List.length hv; simp at this; omega
        have hz := R.size
        clear R hv
        by_cases h1 : j < dx.length
        · obtain ⟨b, o, f1, k1, n1, s1, la1, lc1, l1, da1, dc1, d1, rfl, hx, hix, x0, x1, x2, x3, x4, x5⟩ := (HIN.out.parts.2.then_ hbel).six h1
          have H := Lib.hid (IHD.out _ (List.mem_of_getElem? hx))
          have HX := Lib.hid hx
          have hle : fs.length + 1 ≤ dx.length := by omega
          have hblt : b < wr.heap.size := cell_lt x0
          have hfl := (OKD.out _ (List.mem_of_getElem? hx)).1
          have HFL := Lib.hid hfl
          clear hx hlen hfl
          have j0 : (0 : Int) ≤ (j : Int) := by omega
          have j1 : (j : Int) < (dx.length : Int) := by omega
          go_wp2_with (go_at_call 34; refine (H.out _ hix).mono ?_; rintro e w1 ⟨⟨k', n', s', la', lc', l', da', dc', d'⟩, rfl, hv', ho', hb1⟩; dsimp only [T.arg, T.cells]; have HO := Lib.hid ho'; have HV' := Lib.hid hv'; clear hv' ho'; have c1 : ∀ X i, (w1.alloc X).cell? ⟨w.heap.size + 2, i, none⟩ = (#[.int .i64 kx, .int .i64 nx, .string sx, .slice la ts.length lc, .slice da fs.length dc] : Array Value)[i]? := fun X => grow_alloc HR.out (below_then hb1 (below1 _ X)); have c3 : ∀ X Y i, ((w1.alloc X).alloc Y).cell? ⟨w.heap.size + 2, i, none⟩ = (#[.int .i64 kx, .int .i64 nx, .string sx, .slice la ts.length lc, .slice da fs.length dc] : Array Value)[i]? := fun X Y => grow_alloc HR.out (below_then hb1 (below2 _ X Y)); have c0 : ∀ X i, (w1.alloc X).cell? ⟨w.heap.size, i, none⟩ = (#[.int .i64 kx, .int .i64 nx, .string sx, .slice lax lx.length lcx, .slice (some ⟨b, o, none⟩) dx.length dcx] : Array Value)[i]? := fun X => row_cells (row_then (row_then HR.out.box1 hb1) (below1 _ X)); have hz1 : w.heap.size + 3 ≤ w1.heap.size := Nat.le_trans hz hb1.size)
          have z0 : ∀ X, (w1.alloc X).cell? ⟨b, o + j * 6, none⟩ = some (.string f1) := fun X => ((below_then hb1 (below1 _ X)).cell hblt).trans x0
          go_region_law (refine step_append_lies _ rfl (.tmp 49) (.tmp 58) 29 rfl (w.heap.size + 3) 52 i1 _ 6 96 Tryd.underlying29 I1.out.1 I1.out.2.1 I1.out.2.2.1 I1.out.2.2.2 rfl (by decide) (.slice da fs.length dc) fs.length _ (by simp [Act.eval]) ((((row_keep (own_rowD HR.out.own) hb1).alloc _).drew).alloc _) ⟨w1.heap.size + 1, 0, none⟩ 1 1 [.string f1, .int .i64 k', .int .i64 n', .string s', .slice la' l'.length lc', .slice da' d'.length dc'] (by simp [Act.eval]) rfl (news_at _ _ _ _ (by simp)) (by simp [Value.oneCell']) (by decide) (by unfold maxLen; omega) (by omega) (by simp; omega) _ rfl ?_; intro g cap w2 hown2 hgrow2 hg2 hlt2; have C2 := grow_cells HR.out (below_then hb1 (below_drawn _ _ _)) hgrow2 (fun b hb' => ((own_rowD HR.out.own).lt b hb').1); have c2 := C2.1; have f2 := C2.2; clear C2)
          all_goals
            go_wp2_with fail
            have HS := grow_stepD HR.out (below_then hb1 (below_drawn _ _ _)) (HO.out.keep (Only.of_below (S := []) (below_drawn _ _ _)) (by simp) (Nat.le_refl _)) HFL.out (by unfold okFar; omega) hown2 hgrow2 hg2
            have HN : ((fs ++ [(f1, T.mk k' n' s' la' lc' l' da' dc' d')]).map fun f => (f.1, f.2.val)) = (dx.map fun f => (f.1, f.2.val)).take (j + 1) := by
              rw [List.map_append, HVD.out, List.take_add_one, List.getElem?_map, HX.out]
              simp [HV'.out]
            replace HS := Lib.hid (And.intro HN HS)
            clear HN c2 f2
            go_roundw
            case rel => exact ⟨j + 1, _, _, _, by omega, by go_num, HS.out.1, HS.out.2⟩
            case measure => simp [intOf]; omega
        · have hjl : j = dx.length := by omega
          subst hjl
          have q2 : ∀ i, wr.cell? ⟨w.heap.size + 2, i, none⟩ = (#[.int .i64 kx, .int .i64 nx, .string sx, .slice la ts.length lc, .slice da fs.length dc] : Array Value)[i]? := row_cells HR.out.box3
          have q3 : ∀ i, wr.cell? ⟨w.heap.size + 1, i, none⟩ = (#[.int .i64 0, .int .i64 0, .string ⟨#[]⟩, .slice none 0 0, .slice none 0 0] : Array Value)[i]? := row_cells HR.out.box2
          have f3 : ∀ i, wr.frozen? ⟨w.heap.size + 1, i, none⟩ = false := fun i => frozen_of_row _ _ _ _ _ HR.out.box2
          clear hlen
          go_wp2_with fail
          refine bodyPost_ret (v := .agg #[.int .i64 kx, .int .i64 nx, .string sx, .slice la ts.length lc, .slice da fs.length dc]) (by simp [results, Tryd.results34, go_sem, q3]) rfl ?_
          have ho5 := only_set5 wr (w.heap.size + 1) (.int .i64 kx) (.int .i64 nx) (.string sx) (.slice la ts.length lc) (.slice da fs.length dc)
          have hzz := hz
          refine ⟨.mk kx nx sx la lc ts da dc fs, rfl, ?_, HR.out.own.keep ho5 (by simp) (by omega), ((Only.of_below (S := []) hbel).then_ ho5 (by simp)).below⟩
          rw [T.val_mk, T.val_mk, HV.out, HVD.out, List.take_of_length_le (by simp)]
end Go.Proofs.YtkklnfihjikilaaDoor
