/- The contracts of missing and pickEach: no statement is proved here. -/
import Derived.Test.YtkklnfihjikilaaDoorPathBel
import Derived.Test.YtkklnfihjikilaaDoorRefClone
namespace Go.Proofs.YtkklnfihjikilaaDoor
open Go.RowKit
set_option maxRecDepth 100000

theorem len_beq0 (n : Nat) : ((n : Int) == 0) = (n == 0) := by rw [Bool.eq_iff_iff]; simp
theorem missing_any (t : T) (ok : t.ok) (w : World) : Calls Tryd.prog 82 #[t.arg] w fun e w' => e = .returned (.bool (missV t.val)) ∧ Below w.heap.size w w' := by
  obtain ⟨kx, nx, sx, lax, lcx, lx, dax, dcx, dx⟩ := t
  show Calls _ _ #[.agg #[.int .i64 kx, .int .i64 nx, .string sx, .slice lax lx.length lcx, .slice dax dx.length dcx]] _ _
  rw [T.val_mk, missV, List.length_map, List.length_map]
  clear ok
  go_enter Tryd.func82, Tryd.ntmps82
  go_wp2_with fail
  all_goals
    go_ret
    refine ⟨ret_bool ?_, below1 _ _⟩
    simp_all [len_beq0]
def pickOne (ps : List ByteArray) (x : V) : List V := if kindV x = 5 ∨ kindV x = 6 then (if missV (pickV x ps) then [] else [pickV x ps]) else []
theorem pickEach_flat (ps : List ByteArray) : ∀ l : List V, pickEach l ps = l.flatMap (pickOne ps) := by
  intro l
  induction l with
  | nil => rw [pickEach]; rfl
  | cons x t ih => rw [pickEach, List.flatMap_cons, ih]; rfl
theorem pickEach_next (ps : List ByteArray) (l : List V) (k : Nat) (x : V) (hx : l[k]? = some x) : pickEach (l.take (k + 1)) ps = pickEach (l.take k) ps ++ pickOne ps x := by
  rw [pickEach_flat, pickEach_flat, List.take_add_one, hx]
  simp
/-- Pick is what the document says, in memory of its own. -/
def PickAt (x : T) : Prop := ∀ (ps : List ByteArray) (pa : Option Addr) (pc : Nat) (w : World), x.In w → Parts w pa pc ps → Calls Tryd.prog 46 #[x.arg, .slice pa ps.length pc] w (WithTo (pickV x.val ps) w)

/-- A list that grows in a box; ahead of it the box of the answer. -/
structure Grow2 (w wr : World) (la : Option Addr) (lc : Nat) (ts : List T) : Prop where
  below : Below w.heap.size w wr
  size : w.heap.size + 2 ≤ wr.heap.size
  box2 : wr.heap[w.heap.size]? = some (.cells zeroCells.toArray 31 (0, 0))
  box3 : wr.heap[w.heap.size + 1]? = some (.cells #[.int .i64 6, .int .i64 0, .string ⟨#[]⟩, .slice la ts.length lc, .slice none 0 0] 31 (0, 0))
  own : T.Own wr (w.heap.size + 2) (.mk 6 0 ⟨#[]⟩ la lc ts none 0 [])
theorem grow2_start (w : World) : Grow2 w ((w.alloc (.cells zeroCells.toArray 31)).alloc (.cells #[.int .i64 6, .int .i64 0, .string ⟨#[]⟩, .slice none 0 0, .slice none 0 0] 31)) none 0 [] := by
  refine ⟨below2 _ _ _, by simp, heap_alloc2_old _ _ _, heap_alloc2_new _ _ _, ?_, fun r hr => ?_, ?_⟩
  · simp [T.ok, T.okL, T.okD, okInt, okLen, okFar, ByteArray.size]
  · simp [T.rows, T.rowsL, T.rowsD] at hr
    rcases hr with rfl | rfl <;> exact World.ownsRow_nil _ _ _ _
  · simp [T.rows, T.rowsL, T.rowsD, blocksOf, Value.ownBlock]
theorem Grow2.then_ {w wr w' : World} {la : Option Addr} {lc : Nat} {ts : List T} (R : Grow2 w wr la lc ts) (h : Below wr.heap.size wr w') : Grow2 w w' la lc ts :=
  ⟨below_then R.below h, Nat.le_trans R.size h.size, row_then R.box2 h, row_then R.box3 h, R.own.keep (Only.of_below (S := []) h) (by simp) (Nat.le_refl _)⟩
theorem grow2_box {w wr w1 w2 : World} {la : Option Addr} {lc : Nat} {ts : List T} {row : Option Nat}
    (R : Grow2 w wr la lc ts) (hb : Below wr.heap.size wr w1) (hg : w1.grownBy w2 row) (hr : ∀ b, row = some b → w.heap.size + 2 ≤ b) :
    Below w.heap.size w w2 ∧ wr.heap.size ≤ w2.heap.size ∧ w2.heap[w.heap.size]? = wr.heap[w.heap.size]? ∧ w2.heap[w.heap.size + 1]? = wr.heap[w.heap.size + 1]? := by
  have h1 : Only row.toList wr w2 := (Only.of_below hb).trans (Only.of_grow hg)
  have hz := R.size
  have hn : ∀ i, i < 2 → (w.heap.size + i) ∉ row.toList := fun i hi hc => by have := hr _ (by simpa using hc); omega
  exact ⟨((Only.of_below (S := []) R.below).then_ h1 (fun i hi => .inr (by have := hr i (by simpa using hi); omega))).below, h1.size, h1.block _ (by omega) (hn 0 (by omega)), h1.block _ (by omega) (hn 1 (by omega))⟩
theorem grow2_step {w wr w1 w2 : World} {la : Option Addr} {lc : Nat} {ts : List T} {y : T} {g cap B : Nat}
    (R : Grow2 w wr la lc ts) (hb : Below wr.heap.size wr w1) (hy : y.Own w1 B) (hB : wr.heap.size ≤ B) (hl : okLen ((ts.length + 1) * 80))
    (hrow : w2.ownsRow (w.heap.size + 2) 31 5 (.slice (some ⟨g, 0, none⟩) (ts.length + 1) cap) (ts.length + 1) (ts.flatMap T.cells ++ y.cells)) (hg : w1.grownBy w2 (Value.slice la ts.length lc).ownBlock) (hd : (Value.slice la ts.length lc).ownBlock = some g ∨ g = w1.heap.size) :
    Grow2 w (w2.setCell ⟨w.heap.size + 1, 3, none⟩ (.slice (some ⟨g, 0, none⟩) (ts.length + 1) cap)) (some ⟨g, 0, none⟩) cap (ts ++ [y]) := by
  have G := grow2_box R hb hg (fun b hb' => ((own_rowL R.own).lt b hb').1)
  have HA := own_addL R.own hy hb hB (by have := R.size; omega) hl (cap_of hrow) hrow hg (hd.imp id (fun h => by omega))
  have hz := R.size
  have ho := (Only.refl [w.heap.size + 1] w2).setCell (p := ⟨w.heap.size + 1, 3, none⟩) (.inl (by simp)) (.slice (some ⟨g, 0, none⟩) (ts.length + 1) cap)
  obtain ⟨g1, g2, g3, g4⟩ := G
  refine ⟨((Only.of_below (S := []) g1).then_ ho (by simp)).below, ?_, ?_, ?_, HA.keep ho (by simp) (Nat.le_refl _)⟩
  · have := ho.size; omega
  · exact (ho.block _ (by omega) (by simp)).trans (g3.trans R.box2)
  · have := heap_setCell_same w2 (w.heap.size + 1) 3 _ _ (.slice (some ⟨g, 0, none⟩) (ts.length + 1) cap) (g4.trans R.box3)
    simpa using this
theorem grow2_cells {w wr w1 w2 : World} {la : Option Addr} {lc : Nat} {ts : List T} {row : Option Nat} (R : Grow2 w wr la lc ts) (hb : Below wr.heap.size wr w1) (hg : w1.grownBy w2 row) (hr : ∀ b, row = some b → w.heap.size + 2 ≤ b) :
    (∀ o, w2.cell? ⟨w.heap.size + 1, o, none⟩ = (#[.int .i64 6, .int .i64 0, .string ⟨#[]⟩, .slice la ts.length lc, .slice none 0 0] : Array Value)[o]?) ∧ ∀ o, w2.frozen? ⟨w.heap.size + 1, o, none⟩ = false := by
  obtain ⟨-, -, -, h⟩ := grow2_box R hb hg hr
  exact ⟨row_cells (h.trans R.box3), fun o => frozen_of_row _ _ _ _ _ (h.trans R.box3)⟩

set_option maxHeartbeats 4000000 in
theorem pickEach_any (la : Option Addr) (ca : Nat) (l : List T) (pa : Option Addr) (pc : Nat) (ps : List ByteArray) (w : World) (hin : InL w la l) (hps : Parts w pa pc ps) (hl : l.length * 80 ≤ 140737488351232) (okl : ∀ x ∈ l, x.ok) (ih : ∀ x ∈ l, PickAt x) :
    Calls Tryd.prog 66 #[.slice la l.length ca, .slice pa ps.length pc] w (WithTo (.mk 6 0 ⟨#[]⟩ (pickEach (l.map T.val) ps) []) w) := by
  obtain ⟨i0, hi0, hz0, hz1, hz2⟩ := info_parts info_value
  have I0 := Lib.hid (And.intro hi0 (And.intro hz0 (And.intro hz1 hz2)))
  have HI := Lib.hid hin
  have HP := Lib.hid hps
  have IH := Lib.hid (And.intro okl ih)
  have HG := Lib.hid (grow2_start w)
  clear hin hps okl ih hi0 hz0 hz1 hz2
  go_enter Tryd.func66, Tryd.ntmps66
  go_wp2_with fail
  go_loopw [7, 8, 12] (fun _ _ i wr => ∃ (k : Nat) (ra : Option Addr) (rc : Nat) (ts : List T), k ≤ l.length ∧ i = .int .i64 k ∧ ts.map T.val = pickEach ((l.map T.val).take k) ps ∧ ts.length ≤ k ∧ Grow2 w wr ra rc ts) (fun _ _ i _ => l.length - (intOf i).toNat)
  case atStart => exact ⟨0, none, 0, [], by omega, rfl, by simp [pickEach], by simp, HG.out⟩
  case round =>
    clear HG
    obtain ⟨k, ra, rc, ts, hk, rfl, hv, hle, R⟩ := hrel
    have HR := Lib.hid R
    have HV := Lib.hid hv
    have hz := R.size
    have hbel := R.below
    clear R hv
    by_cases h1 : k < l.length
    · obtain ⟨b, o, k1, n1, s1, la1, lc1, l1, da1, dc1, d1, rfl, hx, hix, x0, x1, x2, x3, x4⟩ := (HI.out.then_ hbel).five h1
      have HX := Lib.hid hx
      have HIX := Lib.hid hix
      have HN := Lib.hid (pickEach_next ps (l.map T.val) k _ (by rw [List.getElem?_map, hx]; rfl))
      have HPA := Lib.hid (IH.out.2 _ (List.mem_of_getElem? hx))
      clear hx hix
      by_cases hkk : k1 = 5 ∨ k1 = 6
      · have HO1 := Lib.hid (show pickOne ps (T.mk k1 n1 s1 la1 lc1 l1 da1 dc1 d1).val = if missV (pickV (T.mk k1 n1 s1 la1 lc1 l1 da1 dc1 d1).val ps) then [] else [pickV (T.mk k1 n1 s1 la1 lc1 l1 da1 dc1 d1).val ps] by rw [pickOne, if_pos (by rw [T.val_mk]; exact hkk)])
        rcases hkk with rfl | rfl
        all_goals
          go_wp2_with (first
            | (go_at_call 46; refine (HPA.out ps pa pc _ (HIX.out.then_ (below1 _ _)) ((HP.out.then_ hbel).then_ (below1 _ _))).mono ?_; rintro e w1 ⟨⟨k', n', s', la', lc', l', da', dc', d'⟩, rfl, hv', ho', b1'⟩; dsimp only [T.arg, T.cells]; have HO := Lib.hid ho'; have HV' := Lib.hid hv'; have B1 := Lib.hid (below_then (below1 wr _) b1'); have Z1 : wr.heap.size + 1 ≤ w1.heap.size := (by have := b1'.size; simpa using this); clear hv' ho' b1')
            | (go_at_call 82; refine (missing_any (.mk k' n' s' la' lc' l' da' dc' d') HO.out.ok _).mono ?_; rintro e w2 ⟨rfl, b2'⟩; have g2 := row_cells (row_then (heap_alloc_new w1 (.cells #[.int .i64 k', .int .i64 n', .string s', .slice la' l'.length lc', .slice da' d'.length dc'] 31)) b2'); have B12 := Lib.hid (below_then (below1 w1 _) b2'); have B2 := Lib.hid (below_then B1.out B12.out); have c1 := row_cells (HR.out.then_ B2.out).box3; have HM := Lib.hid HV'.out; generalize hm : missV (T.mk k' n' s' la' lc' l' da' dc' d').val = m; rw [HV'.out] at hm; have HMM := Lib.hid hm; clear hm b2'; cases m)
            | (at_builtin; refine wpList_append_lies _ rfl (.tmp 31) (.tmp 33) 28 rfl (w.heap.size + 2) 31 i0 _ 5 80 Tryd.underlying28 I0.out.1 I0.out.2.1 I0.out.2.2.1 I0.out.2.2.2 rfl (by decide) (.slice ra ts.length rc) ts.length _ rfl ((row_keep (own_rowL HR.out.own) B2.out).alloc _) _ 1 1 [.int .i64 k', .int .i64 n', .string s', .slice la' l'.length lc', .slice da' d'.length dc'] rfl rfl (news_at _ _ _ _ (by simp)) (by simp [Value.oneCell']) (by decide) (by unfold maxLen; omega) (by omega) (by have := B2.out.size; simp; omega) _ rfl ?_; intro g cap w3 hown3 hgrow3 hg3 hlt3; have C2 := grow2_cells HR.out (below_then B2.out (below1 _ _)) hgrow3 (fun b hb' => ((own_rowL HR.out.own).lt b hb').1); have c2 := C2.1; have f2 := C2.2; clear C2))
          · have HS := grow2_step HR.out (below_then B2.out (below1 _ _)) (HO.out.keep (Only.of_below (S := []) (below_then B12.out (below1 _ _))) (by simp) (Nat.le_refl _)) (by simp) (by unfold okLen; omega) hown3 hgrow3 hg3
            have HL : (ts ++ [T.mk k' n' s' la' lc' l' da' dc' d']).map T.val = pickEach ((l.map T.val).take (k + 1)) ps := by
              rw [List.map_append, HV.out, HN.out, HO1.out, HMM.out]
              simp [HV'.out]
            replace HS := Lib.hid (And.intro HL HS)
            clear HL c2 f2
            go_roundw
            case rel => exact ⟨k + 1, _, _, _, by omega, by go_num, HS.out.1, by simp; omega, HS.out.2⟩
            case measure => simp [intOf]; omega
          · have HL : ts.map T.val = pickEach ((l.map T.val).take (k + 1)) ps := by
              rw [HV.out, HN.out, HO1.out, HMM.out]
              simp
            have HS := Lib.hid (And.intro HL (HR.out.then_ B2.out))
            clear HL
            go_roundw
            case rel => exact ⟨k + 1, _, _, _, by omega, by go_num, HS.out.1, by omega, HS.out.2⟩
            case measure => simp [intOf]; omega
      · have h5 : ((k1 : Int) != 5) = true := by simp; exact fun h => hkk (.inl h)
        have h6 : ((k1 : Int) != 6) = true := by simp; exact fun h => hkk (.inr h)
        have HO1 := Lib.hid (show pickOne ps (T.mk k1 n1 s1 la1 lc1 l1 da1 dc1 d1).val = [] by rw [pickOne, if_neg (by rw [T.val_mk]; exact hkk)])
        clear hkk
        go_wp2_with fail
        go_roundw
        case rel => exact ⟨k + 1, _, _, ts, by omega, by go_num, by rw [HN.out, HO1.out, HV.out, List.append_nil], by omega, HR.out.then_ (below1 _ _)⟩
        case measure => simp [intOf]; omega
    · have hkl : k = l.length := by omega
      have q2 : ∀ i, wr.cell? ⟨w.heap.size + 1, i, none⟩ = (#[.int .i64 6, .int .i64 0, .string ⟨#[]⟩, .slice ra ts.length rc, .slice none 0 0] : Array Value)[i]? := row_cells HR.out.box3
      have q3 : ∀ i, wr.cell? ⟨w.heap.size, i, none⟩ = (#[.int .i64 0, .int .i64 0, .string ⟨#[]⟩, .slice none 0 0, .slice none 0 0] : Array Value)[i]? := row_cells HR.out.box2
      have f3 := row_free HR.out.box2
      go_wp2_with fail
      refine bodyPost_ret (v := .agg #[.int .i64 6, .int .i64 0, .string ⟨#[]⟩, .slice ra ts.length rc, .slice none 0 0]) (by simp [results, Tryd.results66, go_sem, q3]) rfl ?_
      have ho5 := only_set5 wr w.heap.size (.int .i64 6) (.int .i64 0) (.string ⟨#[]⟩) (.slice ra ts.length rc) (.slice none 0 0)
      refine ⟨.mk 6 0 ⟨#[]⟩ ra rc ts none 0 [], rfl, ?_, HR.out.own.keep ho5 (by simp) (by omega), ((Only.of_below (S := []) hbel).then_ ho5 (by simp)).below⟩
      rw [T.val_mk, HV.out, List.take_of_length_le (by simp; omega)]
      rfl

theorem WithTo.pre {v : V} {w w1 : World} {e : Ending} {w' : World} (h : Below w.heap.size w w1) (k : WithTo v w1 e w') : WithTo v w e w' := by
  obtain ⟨t', he, hv, ho, hb⟩ := k
  exact ⟨t', he, hv, ho.keep (Only.refl [] _) (by simp) h.size, below_then h hb⟩
theorem pickV_nil (v : V) : pickV v [] = v := by obtain ⟨k, n, s, l, d⟩ := v; rw [pickV]
theorem pick_child {v : V} {p : ByteArray} {r : List ByteArray} (h : kindV v = 5) : pickV v (p :: r) = match childV v p with | some x => pickV x r | none => zeroV := by
  obtain ⟨k, n, s, l, d⟩ := v
  rw [kindV] at h
  rw [pickV, if_pos h, childV, if_pos h, pickFind_find]
  cases findD d p <;> rfl
/-- A value of the call's own, stored into the answer's box. -/
theorem stored_with {w w2 : World} {B : Nat} {k n : Int} {s : ByteArray} {la : Option Addr} {lc : Nat} {l : List T} {da : Option Addr} {dc : Nat} {d : List (ByteArray × T)} {v : V} (ho : T.Own w2 B (.mk k n s la lc l da dc d)) (hB : w.heap.size + 2 ≤ B) (hb : Below w.heap.size w w2) (hv : (T.mk k n s la lc l da dc d).val = v) :
    WithTo v w (.returned (.agg #[.int .i64 k, .int .i64 n, .string s, .slice la l.length lc, .slice da d.length dc])) (((((w2.setCell ⟨w.heap.size + 1, 0, none⟩ (.int .i64 k)).setCell ⟨w.heap.size + 1, 1, none⟩ (.int .i64 n)).setCell ⟨w.heap.size + 1, 2, none⟩ (.string s)).setCell ⟨w.heap.size + 1, 3, none⟩ (.slice la l.length lc)).setCell ⟨w.heap.size + 1, 4, none⟩ (.slice da d.length dc)) := by
  have ho5 := only_set5 w2 (w.heap.size + 1) (.int .i64 k) (.int .i64 n) (.string s) (.slice la l.length lc) (.slice da d.length dc)
  exact ⟨.mk k n s la lc l da dc d, rfl, hv, ho.keep ho5 (by simp; omega) (by omega), ((Only.of_below (S := []) hb).then_ ho5 (by simp)).below⟩
theorem drew_below {w w1 : World} (b : Below w.drew.heap.size w.drew w1) : Below w.heap.size w w1 := ⟨b.os, b.tape, b.output, b.size, b.block⟩
end Go.Proofs.YtkklnfihjikilaaDoor
