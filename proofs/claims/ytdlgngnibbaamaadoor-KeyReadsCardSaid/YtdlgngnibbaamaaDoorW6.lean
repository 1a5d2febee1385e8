/- KeyReads: for every row of bytes and every row of bools that the arguments may read as (nothing else is asked) the law returns true, and each argument reads as it did; package utf8's two tables are as the program's text lays them. -/
import Derived.Test.YtdlgngnibbaamaaDoorW5
import Derived.Test.YtdlgngnibbaamaaDoorKRead
import Derived.Test.YtdlgngnibbaamaaDoorW2
import Derived.Test.YtdlgngnibbaamaaDoorKRow
import Derived.Test.YtdlgngnibbaamaaDoorKText
import Derived.Test.YtdlgngnibbaamaaDoorKAwake
import Derived.Test.YtdlgngnibbaamaaDoorBaseB
namespace Go.Proofs.YtdlgngnibbaamaaDoor
open Go.RowKit
set_option maxRecDepth 100000

theorem right_one {v : V} (h : rightOf v = 0) : rightV 1 v = 0 := by
  unfold rightOf at h
  split at h
  · cases h
  · exact h
theorem RowInv.moreV {bs : List Int} {d : List Bool} {acc : List V} {i j : Nat} {f : Bool} {v : V} (h : RowInv bs d acc i) (hf : d[acc.length]? = some f) (hv : RVRel (tf f (bs.drop i)) 1 v (some (tf f (bs.drop j)))) (hr : rightOf v = 0) : RowInv bs d (acc ++ [v]) j := by
  have hlt := lt_of_get hf
  have e1 := (hv.1 _ rfl).1 (right_shape_of hr)
  have e2 : bs.drop i = tf f (keyV v) ++ bs.drop j := by
    have := congrArg (tf f) e1
    rw [tf_tf, tf_append, tf_tf] at this
    exact this
  refine ⟨?_, fun l' hl hg e => ?_, fun x hx => ?_, by simp; omega⟩
  · conv => lhs; rw [h.eq]
    rw [List.length_append, List.length_singleton, List.take_add_one, hf, keyR_append _ _ _ _ (by rw [List.length_take]; omega), List.append_assoc, e2]
    simp only [Option.toList_some, keyR, List.append_nil]
    rfl
  · obtain ⟨l'', e3, e4⟩ := h.all l' hl hg e
    obtain ⟨y, r, rfl, e5⟩ := RowInv.next hf hl e3 e4
    have hy := hg y (by rw [e3]; simp)
    obtain ⟨e6, rfl⟩ := hv.2 y _ (right_one hy.1) hy.2 e5
    injection e6 with e6
    refine ⟨r, by rw [e3]; simp, ?_⟩
    rw [List.length_append, List.length_singleton, ← tf_tf f (bs.drop j), e6, tf_tf]
  · rcases List.mem_append.1 hx with hx | hx
    · exact h.right x hx
    · simp at hx; subst hx; exact hr
theorem RowInv.stopV {bs : List Int} {d : List Bool} {acc : List V} {i : Nat} {f : Bool} {v : V} {o : Option (List Int)} (h : RowInv bs d acc i) (hf : d[acc.length]? = some f) (hv : RVRel (tf f (bs.drop i)) 1 v o) (hr : o = none ∨ rightOf v ≠ 0) : RowRel bs d [] false := by
  refine ⟨fun h => (by cases h), fun l' hl hg e => ?_⟩
  obtain ⟨l'', e3, e4⟩ := h.all l' hl hg e
  obtain ⟨y, r, rfl, e5⟩ := RowInv.next hf hl e3 e4
  have hy := hg y (by rw [e3]; simp)
  obtain ⟨q1, q2⟩ := hv.2 y _ (right_one hy.1) hy.2 e5
  rcases hr with hr | hr
  · rw [hr] at q1; cases q1
  · rw [q2] at hr; exact absurd hy.1 hr
structure RwAt (w wr : World) (ba : Option Addr) (bc : Nat) (bs : List Int) (d : List Bool) (a : Option Addr) (c : Nat) (ts : List T) (i : Nat) (f : Bool) : Prop where
  own : (holdL a c ts).Own wr (w.heap.size + 2)
  src : RdrAt wr (w.heap.size + 1) ⟨ba, bc, bs, f⟩ i false
  flt : wr.heap[w.heap.size]? = some (.cells #[.int .i64 0, .int .i64 0] 36 (0, 0))
  below : Below w.heap.size w wr
  inv : RowInv bs d (ts.map T.val) i
theorem RdrAt.turn {w : World} {g : Nat} {K : Ctx} {i : Nat} {bad : Bool} (h : RdrAt w g K i bad) (f : Bool) : RdrAt (w.setCell ⟨g, 2, none⟩ (.bool f)) g ⟨K.a, K.c, K.bs, f⟩ i bad := by
  have ho := only_setO w g 2 (.bool f)
  refine ⟨?_, fun i x hx => ?_, h.low, h.le, h.room, h.byte⟩
  · rw [heap_setCell_same _ _ _ _ _ _ h.box]; rfl
  · obtain ⟨b, o, e, hc⟩ := h.inb i x hx
    refine ⟨b, o, e, (World.cell?_of_block (ho.block b (cell_lt hc) ?_)).trans hc⟩
    have hx2 := lt_of_get hx
    simp only at hx2
    have := h.low b o e (by omega)
    simp; omega
theorem RdrAt.only {w w' : World} {g : Nat} {K : Ctx} {i : Nat} {bad : Bool} {S : List Nat} (h : RdrAt w g K i bad) (ho : Only S w w') (hS : ∀ b ∈ S, g < b) : RdrAt w' g K i bad := by
  have hB : ∀ b, b ≤ g → b ∉ S := fun b hb hc => by have := hS b hc; omega
  refine ⟨keep_row ho h.box (hB _ (by omega)), fun i x hx => ?_, h.low, h.le, h.room, h.byte⟩
  obtain ⟨b, o, e, hc⟩ := h.inb i x hx
  have := h.low b o e (by have := lt_of_get hx; omega)
  exact ⟨b, o, e, (World.cell?_of_block (ho.block b (cell_lt hc) (hB b (by omega)))).trans hc⟩
theorem RwAt.row {w wr wX : World} {ba a : Option Addr} {bc c i : Nat} {bs : List Int} {d : List Bool} {ts : List T} {f : Bool} (h : RwAt w wr ba bc bs d a c ts i f) (ho : Only [w.heap.size + 1] wr wX) : wX.ownsRow (w.heap.size + 2) 25 5 (.slice a ts.length c) ts.length (ts.flatMap T.cells) :=
  own_rowL (h.own.keep ho (by simp) (Nat.le_refl _))
theorem RwAt.step {w wr W1 w2 wX w4 : World} {ba a : Option Addr} {bc c i j g cap : Nat} {bs : List Int} {d : List Bool} {ts : List T} {f0 f : Bool} {y : T} (h : RwAt w wr ba bc bs d a c ts i f0) (hf : d[ts.length]? = some f) (ho : Only [w.heap.size + 1] wr W1) (hsz : W1.heap.size = wr.heap.size)
    (ho2 : Only [w.heap.size + 1] W1 w2) (hy : y.Own w2 W1.heap.size) (hs : RdrAt w2 (w.heap.size + 1) ⟨ba, bc, bs, f⟩ j false) (hv : RVRel ((tf f bs).drop i) 1 y.val (some ((tf f bs).drop j))) (hr : rightOf y.val = 0) (hX : Below w2.heap.size w2 wX)
    (hrow : w4.ownsRow (w.heap.size + 2) 25 5 (.slice (some ⟨g, 0, none⟩) (ts.length + 1) cap) (ts.length + 1) (ts.flatMap T.cells ++ y.cells)) (hg : wX.grownBy w4 (Value.slice a ts.length c).ownBlock) (hat : (Value.slice a ts.length c).ownBlock = some g ∨ g = wX.heap.size) (hd : d.length ≤ 4) :
    RwAt w w4 ba bc bs d (some ⟨g, 0, none⟩) cap (ts ++ [y]) j f := by
  have oX : Only [w.heap.size + 1] wr wX := (ho.trans ho2).trans (Only.of_below hX)
  obtain ⟨wm, hsm, om, bm⟩ := only_split oX
  have hlt := lt_of_get hf
  have hblk : ∀ b, (Value.slice a ts.length c).ownBlock = some b → w.heap.size + 2 ≤ b := fun b hb => ((h.row oX).lt b hb).1
  have hlb := lt_of_block h.src.box
  have hown := own_addL (h.own.keep om (by simp) (Nat.le_refl _)) (hy.keep (Only.of_below (S := []) hX) (by simp) (Nat.le_refl _)) bm (by rw [hsm, hsz]; exact Nat.le_refl _) (by rw [hsz]; omega) (by unfold okLen; omega) (cap_of hrow) hrow hg (hat.imp id (fun e => by omega))
  have o3 : Only (Value.slice a ts.length c).ownBlock.toList wX w4 := only_grow hg
  have hnot : ∀ b ∈ (Value.slice a ts.length c).ownBlock.toList, w.heap.size + 1 < b := fun b hb => by have := hblk b (by simpa using hb); omega
  refine ⟨hown, (hs.only (Only.of_below (S := []) hX) (by simp)).only o3 hnot, keep_row o3 (keep_row oX h.flt (by simp)) (fun hc => by have := hnot _ hc; omega), ?_, ?_⟩
  · have h1 := ((Only.of_below (S := []) h.below).then_ oX (by simp)).then_ o3 (fun b hb => .inr (by have := hnot b hb; omega))
    exact h1.below
  · rw [List.map_append]
    have hf2 : d[(ts.map T.val).length]? = some f := by rw [List.length_map]; exact hf
    exact h.inv.moreV hf2 (by rw [tf_drop, tf_drop]; exact hv) hr

set_option maxHeartbeats 8000000 in
theorem refRead_any (ba : Option Addr) (bc : Nat) (bs : List Int) (lb : Option Addr) (cb : Nat) (d : List Bool) (w : World) (ha : InB w ba bs) (hf : InF w lb d) (hb : isB bs) (hl : bs.length ≤ 9223372036854775807) (hd : d.length ≤ 9223372036854775807) (hT : Tabs w) :
    Calls Tryd.prog 33 #[.slice ba bs.length bc, .slice lb d.length cb] w (ReadTo bs d w) := by
  obtain ⟨i0, hi0, hz0, hz1, hz2⟩ := info_parts info_value
  have I0 := Lib.hid (And.intro hi0 (And.intro hz0 (And.intro hz1 hz2)))
  clear hi0 hz0 hz1 hz2
  have HA := Lib.hid (And.intro ha (And.intro hf (And.intro hb hT)))
  clear ha hf hb hT
  by_cases h1 : d.length < 1
  · go_enter Tryd.func33, Tryd.ntmps33
    go_wp2_with fail
    refine bodyPost_ret (v := .tuple #[.slice none 0 0, .agg #[.int .i64 1, .int .i64 (-1)]]) (by simp [results, Tryd.results33, go_sem]) rfl ?_
    exact ⟨none, 0, [], 1, -1, rfl, holdL_start _ _, below1 _ _, .inl ⟨by omega, rfl, rfl, rfl⟩⟩
  by_cases h4 : 4 < d.length
  · go_enter Tryd.func33, Tryd.ntmps33
    go_wp2_with fail
    refine bodyPost_ret (v := .tuple #[.slice none 0 0, .agg #[.int .i64 1, .int .i64 (-1)]]) (by simp [results, Tryd.results33, go_sem]) rfl ?_
    exact ⟨none, 0, [], 1, -1, rfl, holdL_start _ _, below1 _ _, .inl ⟨by omega, rfl, rfl, rfl⟩⟩
  by_cases h2 : 1000 < bs.length
  · go_enter Tryd.func33, Tryd.ntmps33
    go_wp2_with fail
    refine bodyPost_ret (v := .tuple #[.slice none 0 0, .agg #[.int .i64 30, .int .i64 (-1)]]) (by simp [results, Tryd.results33, go_sem]) rfl ?_
    exact ⟨none, 0, [], 30, -1, rfl, holdL_start _ _, below1 _ _, .inr (.inl ⟨by omega, h2, rfl, rfl, rfl⟩)⟩
  go_enter Tryd.func33, Tryd.ntmps33
  go_wp2_with fail
  go_loopw [7, 8, 9, 10] (fun u n _ _ wr => ∃ a c ts i f, u = .slice a ts.length c ∧ n = .int .i64 (ts.length : Nat) ∧ RwAt w wr ba bc bs d a c ts i f) (fun _ n _ _ _ => d.length - (intOf n).toNat)
  case atStart =>
    have hb2 := below2 w (.cells #[.int .i64 0, .int .i64 0] 36) (.cells #[.slice ba bs.length bc, .int .i64 0, .bool false, .bool false] 82)
    refine ⟨none, 0, [], 0, false, rfl, rfl, holdL_start _ _, ⟨?_, HA.out.1.then_ hb2, ?_, Nat.zero_le _, by simp only; omega, HA.out.2.2.1⟩, ?_, hb2, RowInv.start bs d⟩
    · exact heap_alloc2_new _ _ _
    · intro b o e h1
      obtain ⟨b', o', e', hc⟩ := HA.out.1 0 _ (List.getElem?_eq_getElem h1)
      have e2 : ba = some ⟨b, o, none⟩ := e
      rw [e2] at e'
      injection e' with e'
      injection e' with e1 e2
      subst e1
      have := cell_lt hc
      simp only at this
      omega
    · exact heap_alloc2_old _ _ _
  case round =>
    obtain ⟨a, c, ts, i, f0, rfl, rfl, hR⟩ := hrel
    have HR := Lib.hid hR
    have hle := hR.inv.len
    rw [List.length_map] at hle
    have HG := Lib.hid (lt_of_block hR.src.box)
    clear hR
    by_cases h1 : ts.length < d.length
    · obtain ⟨f, hfx⟩ : ∃ f, d[ts.length]? = some f := ⟨_, List.getElem?_eq_getElem h1⟩
      obtain ⟨b2, o2, rfl, x0⟩ := (HA.out.2.1.then_ HR.out.below) _ f hfx
      have HF := Lib.hid hfx
      have c2 := row_cells HR.out.src.box
      have g2 := (fun o => frozen_of_row _ _ o _ _ HR.out.src.box)
      have HW := Lib.hid (rdValue_any 1000 ((tf f bs).drop i) (by rw [List.length_drop, tf_len]; omega) (wr.setCell ⟨w.heap.size + 1, 2, none⟩ (.bool f)) (w.heap.size + 1) ⟨ba, bc, bs, f⟩ 1 (by omega) (by omega) ⟨i, false, HR.out.src.turn f, rfl⟩)
      have HO := Lib.hid (And.intro (only_setO wr (w.heap.size + 1) 2 (.bool f)) (show (wr.setCell ⟨w.heap.size + 1, 2, none⟩ (.bool f)).heap.size = wr.heap.size by simp [World.setCell]))
      clear hfx
      go_wp2_with (first
        | (go_at_call 53; refine HW.out.mono ?_; rintro e w2 ⟨⟨ky, ny, sy, lay, lcy, ly, day, dcy, dy⟩, o, rfl, hy, ⟨j, bad, hsj, hj⟩, ho2, hv⟩; dsimp only [T.arg, T.cells]; have hbl := ((((Only.of_below (S := []) HR.out.below).then_ HO.out.1 (by simp)).then_ ho2 (by simp))).below; have HQ := Lib.hid (refRight_any _ hy.ok (w2.alloc (.cells #[.int .i64 ky, .int .i64 ny, .string sy, .slice lay ly.length lcy, .slice day dy.length dcy] 25)) ((owns_in _ hy.owns).then_ (below1 _ _)) ((HA.out.2.2.2.then_ hbl).then_ (below1 _ _))); have zF := keep_row ho2 (keep_row HO.out.1 HR.out.flt (by simp)) (by simp); have S2 := Lib.hid (And.intro hy (And.intro hsj (And.intro hj (And.intro ho2 (And.intro hv (And.intro hbl zF)))))); clear hy hsj hj ho2 hv hbl zF c2 g2)
        | (go_at_call 42; refine HQ.out.mono ?_; rintro e w3 ⟨rfl, hb3⟩; have c3 := (fun X => row_cells (row_then (row_then (heap_alloc_new w2 (.cells #[.int .i64 ky, .int .i64 ny, .string sy, .slice lay ly.length lcy, .slice day dy.length dcy] 25)) hb3) (below1 w3 X))); have c3' := row_cells (row_then (heap_alloc_new w2 (.cells #[.int .i64 ky, .int .i64 ny, .string sy, .slice lay ly.length lcy, .slice day dy.length dcy] 25)) hb3); have B3 := Lib.hid (below_then (below1 w2 (.cells #[.int .i64 ky, .int .i64 ny, .string sy, .slice lay ly.length lcy, .slice day dy.length dcy] 25)) hb3); have c4 := row_cells (row_then S2.out.2.1.box B3.out); have zF3 := row_then S2.out.2.2.2.2.2.2 B3.out; have cF := row_cells zF3; have fF := (fun o => frozen_of_row _ _ o _ _ zF3); have ZF := Lib.hid zF3; clear hb3 zF3; generalize hrv : rightOf (T.val (.mk ky ny sy lay lcy ly day dcy dy)) = rv; replace hrv := Lib.hid hrv; cases bad; (by_cases hr0 : rv = 0; (subst hr0); rotate_left; (have hne : ((rv : Int) != 0) = true := by simp [hr0]); (have HN := Lib.hid hr0; clear hr0); rotate_left))
        | (at_builtin; refine wpList_append_lies _ rfl (.tmp 53) (.tmp 55) 22 rfl (w.heap.size + 2) 25 i0 _ 5 80 Tryd.underlying22 I0.out.1 I0.out.2.1 I0.out.2.2.1 I0.out.2.2.2 rfl (by decide) _ ts.length (ts.flatMap T.cells) rfl (HR.out.row (((HO.out.1).trans (S2.out.2.2.2.1)).trans (Only.of_below (B3.out.alloc B3.out.size _)))) ⟨w3.heap.size, 0, none⟩ 1 1 [.int .i64 ky, .int .i64 ny, .string sy, .slice lay ly.length lcy, .slice day dy.length dcy] rfl rfl (news_at _ _ _ _ rfl) (by simp [Value.oneCell']) (by omega) (by unfold maxLen; omega) (by omega) (by have := HG.out; have := HO.out.2; have := S2.out.2.2.2.1.size; have := B3.out.size; simp; omega) _ rfl ?_; intro g cap w4 hrow hgrow hat _; have G4 := Lib.hid (HR.out.step HF.out HO.out.1 HO.out.2 S2.out.2.2.2.1 S2.out.1 S2.out.2.1 (by have h5 := S2.out.2.2.1; have h6 := S2.out.2.2.2.2.1; rw [← h5] at h6; exact h6) hrv.out (B3.out.alloc B3.out.size _) hrow hgrow hat (by omega)); clear hrow hgrow hat))
      · have cp := row_cells (puttwo ZF.out (.int .i64 31) (.int .i64 (-1)))
        refine bodyPost_ret (v := .tuple #[.slice none 0 0, .agg #[.int .i64 31, .int .i64 (-1)]]) (by simp [results, Tryd.results33, go_sem, cp]) rfl ?_
        exact ⟨none, 0, [], 31, -1, rfl, holdL_start _ _, below_put2 (below_then S2.out.2.2.2.2.2.1 B3.out) _ _, .inr (.inr (.inr ⟨by omega, h2, HR.out.inv.stopV (by rw [List.length_map]; exact HF.out) (by rw [tf_drop]; exact S2.out.2.2.2.2.1) (.inl (by have h5 := S2.out.2.2.1; exact h5.symm)), rfl, rfl, rfl⟩))⟩
      · go_roundw
        case rel => exact ⟨_, _, _, _, _, by rw [List.length_append]; rfl, by rw [List.length_append]; rfl, G4.out⟩
        case measure => simp [intOf]; omega
      · have cp := row_cells (puttwo ZF.out (.int .i64 31) (.int .i64 (-1)))
        refine bodyPost_ret (v := .tuple #[.slice none 0 0, .agg #[.int .i64 31, .int .i64 (-1)]]) (by simp [results, Tryd.results33, go_sem, cp]) rfl ?_
        exact ⟨none, 0, [], 31, -1, rfl, holdL_start _ _, below_put2 (below_then S2.out.2.2.2.2.2.1 B3.out) _ _, .inr (.inr (.inr ⟨by omega, h2, HR.out.inv.stopV (by rw [List.length_map]; exact HF.out) (by rw [tf_drop]; exact S2.out.2.2.2.2.1) (.inr (by rw [hrv.out]; exact HN.out)), rfl, rfl, rfl⟩))⟩
    · have c1 := row_cells HR.out.src.box
      have cF := row_cells HR.out.flt
      have fF := (fun o => frozen_of_row _ _ o _ _ HR.out.flt)
      have hil := HR.out.src.le
      simp only at hil
      by_cases hi : i < bs.length
      · go_wp2_with fail
        have cp := row_cells (puttwo HR.out.flt (.int .i64 31) (.int .i64 (-1)))
        refine bodyPost_ret (v := .tuple #[.slice none 0 0, .agg #[.int .i64 31, .int .i64 (-1)]]) (by simp [results, Tryd.results33, go_sem, cp]) rfl ?_
        exact ⟨none, 0, [], 31, -1, rfl, holdL_start _ _, below_put2 HR.out.below _ _, .inr (.inr (.inr ⟨by omega, h2, HR.out.inv.over (by rw [List.length_map]; omega) hi, rfl, rfl, rfl⟩))⟩
      · go_wp2_with fail
        have cp := row_cells (puttwo HR.out.flt (.int .i64 0) (.int .i64 0))
        refine bodyPost_ret (v := .tuple #[.slice a ts.length c, .agg #[.int .i64 0, .int .i64 0]]) (by simp [results, Tryd.results33, go_sem, cp]) rfl ?_
        exact ⟨a, c, ts, 0, 0, rfl, HR.out.own.keep (((Only.refl [w.heap.size] wr).setCell (p := ⟨w.heap.size, 0, none⟩) (.inl (by simp)) _).setCell (p := ⟨w.heap.size, 1, none⟩) (.inl (by simp)) _) (by simp) (by omega), below_put2 HR.out.below _ _, .inr (.inr (.inl ⟨by omega, h2, HR.out.inv.done (by rw [List.length_map]; omega) (by omega), rfl, rfl⟩))⟩
#print axioms refRead_any
end Go.Proofs.YtdlgngnibbaamaaDoor
namespace Go.Proofs.YtdlgngnibbaamaaDoor
open Go.RowKit
set_option maxRecDepth 100000

/-- A row that was written over so far. -/
theorem fill_set {l : List Int} {k : Nat} (hk : k < l.length) (x : Int) : (List.replicate k x ++ l.drop k).set k x = List.replicate (k + 1) x ++ l.drop (k + 1) := by
  rw [List.set_append_right _ _ (by simp), List.length_replicate, Nat.sub_self, List.drop_eq_getElem_cons hk, List.set_cons_zero, List.replicate_succ', List.append_assoc]
  rfl
theorem fill_len {l : List Int} {k : Nat} (hk : k ≤ l.length) (x : Int) : (List.replicate k x ++ l.drop k).length = l.length := by simp; omega
theorem OwnB.slice {w : World} {B n c : Nat} {a : Option Addr} {l : List Int} (h : OwnB w B (.slice a n c) l) : n = l.length := by
  obtain ⟨a', c', e, -⟩ := h.shape
  injection e
theorem OwnB.grown {w w' : World} {B : Nat} {v : Value} {l : List Int} {row : Option Nat} (h : OwnB w B v l) (hg : w.grownBy w' row) (hn : ∀ g, v.ownBlock = some g → row ≠ some g) : OwnB w' B v l :=
  h.keep fun g hg' => hg.block g (h.block g hg').2 (fun e => hn g hg' e.symm)

structure OwnedAt (w wr : World) (B : Nat) (v1 v2 : Value) (l1 l2 : List Int) : Prop where
  one : OwnB wr B v1 l1
  two : OwnB wr B v2 l2
  off : ∀ g, v1.ownBlock = some g → v2.ownBlock ≠ some g
  below : Below B w wr
set_option maxHeartbeats 8000000 in
theorem owned_any (B : Nat) (v1 v2 : Value) (l1 l2 : List Int) (w : World) (o1 : OwnB w B v1 l1) (o2 : OwnB w B v2 l2) (hd : ∀ g, v1.ownBlock = some g → v2.ownBlock ≠ some g) (hB : B ≤ w.heap.size) (h1 : l1.length + 2 ≤ 140737488355328) (h2 : l2.length + 2 ≤ 140737488355328) :
    Calls Tryd.prog 19 #[v1, v2] w fun e w' => e = .returned (.bool true) ∧ Below B w w' := by
  have HS := Lib.hid (OwnedAt.mk o1 o2 hd (Below.refl B w))
  obtain ⟨a1, c1, rfl, -, -, -, -⟩ := o1.shape
  obtain ⟨a2, c2, rfl, -, -, -, -⟩ := o2.shape
  clear o1 o2 hd
  go_enter Tryd.func19, Tryd.ntmps19
  go_wp2_with fail
  go_loopw [5] (fun i wr => ∃ k : Nat, k ≤ l1.length ∧ i = .int .i64 k ∧ OwnedAt w wr B (.slice a1 l1.length c1) (.slice a2 l2.length c2) (List.replicate k 1 ++ l1.drop k) l2) (fun i _ => l1.length - (intOf i).toNat)
  case atStart => exact ⟨0, by omega, rfl, by simpa using HS.out⟩
  case round =>
    obtain ⟨k, hk, rfl, hR⟩ := hrel
    have HR := Lib.hid hR
    by_cases hkl : k < l1.length
    · obtain ⟨g, c, e, -⟩ := hR.one.form (by rw [fill_len hk]; omega)
      have e' : a1 = some ⟨g, 0, none⟩ := by injection e
      subst e'
      clear e
      obtain ⟨x, x0, f0⟩ : ∃ x, wr.cell? ⟨g, k, none⟩ = some (.int .u8 x) ∧ wr.frozen? ⟨g, k, none⟩ = false := ⟨_, hR.one.at_ (j := k) (x := l1[k]) (by rw [List.getElem?_append_right (by simp)]; simp [hkl])⟩
      clear hR
      go_wp2_with fail
      go_roundw
      case rel =>
        obtain ⟨s1, s2⟩ := HR.out.one.set k 1
        rw [fill_set hkl] at s1
        exact ⟨k + 1, by omega, by go_num, s1, HR.out.two.grown s2 (fun b hb e => HR.out.off g rfl (by rw [hb]; exact e.symm)), HR.out.off, HR.out.below.grown s2 (Nat.le_trans hB HR.out.below.size) (fun b hb => by injection hb with hb; subst hb; exact (HR.out.one.block g rfl).1)⟩
      case measure => simp [intOf]; omega
    · have hk1 : k = l1.length := by omega
      subst hk1
      have e1 : List.replicate l1.length 1 ++ l1.drop l1.length = List.replicate l1.length 1 := by simp
      rw [e1] at HR
      clear hR
      go_wp2_with fail
      go_loopw [6] (fun i wr => ∃ k : Nat, k ≤ l2.length ∧ i = .int .i64 k ∧ OwnedAt w wr B (.slice a1 l1.length c1) (.slice a2 l2.length c2) (List.replicate l1.length 1) (List.replicate k 2 ++ l2.drop k)) (fun i _ => l2.length - (intOf i).toNat)
      case atStart => exact ⟨0, by omega, rfl, by simpa using HR.out⟩
      case round =>
        obtain ⟨k, hk2, rfl, hR⟩ := hrel
        replace HR := Lib.hid hR
        by_cases hkl2 : k < l2.length
        · obtain ⟨g, c, e, -⟩ := hR.two.form (by rw [fill_len hk2]; omega)
          have e' : a2 = some ⟨g, 0, none⟩ := by injection e
          subst e'
          clear e
          obtain ⟨x, x0, f0⟩ : ∃ x, wr.cell? ⟨g, k, none⟩ = some (.int .u8 x) ∧ wr.frozen? ⟨g, k, none⟩ = false := ⟨_, hR.two.at_ (j := k) (x := l2[k]) (by rw [List.getElem?_append_right (by simp)]; simp [hkl2])⟩
          clear hR
          go_wp2_with fail
          go_roundw
          case rel =>
            obtain ⟨s1, s2⟩ := HR.out.two.set k 2
            rw [fill_set hkl2] at s1
            exact ⟨k + 1, by omega, by go_num, HR.out.one.grown s2 (fun b hb e => HR.out.off b hb (by rw [← e]; rfl)), s1, HR.out.off, HR.out.below.grown s2 (Nat.le_trans hB HR.out.below.size) (fun b hb => by injection hb with hb; subst hb; exact (HR.out.two.block g rfl).1)⟩
          case measure => simp [intOf]; omega
        · have hk3 : k = l2.length := by omega
          subst hk3
          have e2 : List.replicate l2.length 2 ++ l2.drop l2.length = List.replicate l2.length 2 := by simp
          rw [e2] at HR
          have hz := Nat.le_trans hB HR.out.below.size
          clear hR
          go_wp2_with (first
            | (at_builtin; refine apL _ rfl (.tmp 27) (.tmp 28) rfl B _ _ rfl HR.out.one [1, 1] _ 2 2 rfl rfl rfl rfl (by simp; omega) hz ?_; intro u1 w1 hg1; have t1 := HR.out.two.grown hg1.grow (fun b hb e => HR.out.off b e (by rw [hb])); have G1 := Lib.hid (And.intro hg1 (And.intro t1 (hg1.below HR.out.one HR.out.below (Nat.le_refl _) hz))); have hz1 := Nat.le_trans hz hg1.size; clear hg1 t1)
            | (at_builtin; refine apL _ rfl (.tmp 30) (.tmp 31) rfl B _ _ rfl G1.out.2.1 [2, 2] _ 2 2 rfl rfl rfl rfl (by simp; omega) hz1 ?_; intro u2 w2 hg2; have p1 := G1.out.1.own.grown hg2.grow (fun b hb e => by rcases G1.out.1.at_ with q | ⟨gg, q, q2⟩; exact HR.out.off b (q ▸ hb) e; (rw [q] at hb; injection hb with hb; have := (HR.out.two.block b e).2; omega)); have G2 := Lib.hid (And.intro p1 (And.intro hg2.own (hg2.below G1.out.2.1 G1.out.2.2 (Nat.le_refl _) hz1))); obtain ⟨b1, d1, rfl, -, -, -, -⟩ := p1.shape; obtain ⟨b2, d2, rfl, -, -, -, -⟩ := hg2.own.shape; clear hg2 p1))
          have n1 : (List.replicate l1.length (1 : Int) ++ [1, 1]).length = l1.length + 2 := by simp
          have n2 : (List.replicate l2.length (2 : Int) ++ [2, 2]).length = l2.length + 2 := by simp
          have r1 : ∀ (k : Nat) (x : Int), (List.replicate l1.length (1 : Int) ++ [1, 1])[k]? = some x → x = 1 := fun k x hx => by have := List.mem_of_getElem? hx; simp at this; omega
          have r2 : ∀ (k : Nat) (x : Int), (List.replicate l2.length (2 : Int) ++ [2, 2])[k]? = some x → x = 2 := fun k x hx => by have := List.mem_of_getElem? hx; simp at this; omega
          generalize List.replicate l1.length (1 : Int) ++ [1, 1] = m1 at *
          generalize List.replicate l2.length (2 : Int) ++ [2, 2] = m2 at *
          have i1 : InB w2 b1 m1 := by obtain ⟨a', c', e, h, -⟩ := G2.out.1.shape; injection e with e _ _; subst e; exact h
          have i2 : InB w2 b2 m2 := by obtain ⟨a', c', e, h, -⟩ := G2.out.2.1.shape; injection e with e _ _; subst e; exact h
          have GG := Lib.hid (And.intro (And.intro r1 r2) (And.intro (And.intro n1 n2) (And.intro i1 i2)))
          have hb2 := G2.out.2.2
          have G3 := Lib.hid hb2
          clear r1 r2 HR G1 G2 HS i1 i2 n1 n2 hb2
          go_loopw [7] (fun i wr => ∃ k : Nat, k ≤ l1.length + 2 ∧ i = .int .i64 k ∧ Below w2.heap.size w2 wr) (fun i _ => l1.length + 2 - (intOf i).toNat)
          case atStart => exact ⟨0, by omega, rfl, Below.refl _ _⟩
          case round =>
            obtain ⟨k, hk4, rfl, hbw⟩ := hrel
            by_cases hk5 : k < l1.length + 2
            · obtain ⟨bb, o, x, rfl, hx, x0⟩ := (GG.out.2.2.1.then_ hbw).one (i := k) (by rw [GG.out.2.1.1]; exact hk5)
              obtain rfl := GG.out.1.1 k x hx
              have HBW := Lib.hid hbw
              clear hx hbw
              go_wp2_with fail
              go_roundw
              case rel => exact ⟨k + 1, by omega, by go_num, HBW.out⟩
              case measure => simp [intOf]; omega
            · have HBW := Lib.hid hbw
              clear hbw
              go_wp2_with fail
              go_loopw [8] (fun i wr => ∃ k : Nat, k ≤ l2.length + 2 ∧ i = .int .i64 k ∧ Below w2.heap.size w2 wr) (fun i _ => l2.length + 2 - (intOf i).toNat)
              case atStart => exact ⟨0, by omega, rfl, HBW.out⟩
              case round =>
                obtain ⟨k, hk6, rfl, hbw⟩ := hrel
                by_cases hk7 : k < l2.length + 2
                · obtain ⟨bb, o, x, rfl, hx, x0⟩ := (GG.out.2.2.2.then_ hbw).one (i := k) (by rw [GG.out.2.1.2]; exact hk7)
                  obtain rfl := GG.out.1.2 k x hx
                  replace HBW := Lib.hid hbw
                  clear hx hbw
                  go_wp2_with fail
                  go_roundw
                  case rel => exact ⟨k + 1, by omega, by go_num, HBW.out⟩
                  case measure => simp [intOf]; omega
                · replace HBW := Lib.hid hbw
                  clear hbw
                  go_wp2_with fail
                  go_ret
                  exact ⟨rfl, G3.out.trans (HBW.out.mono (Nat.le_trans hB G3.out.size))⟩
end Go.Proofs.YtdlgngnibbaamaaDoor
namespace Go.Proofs.YtdlgngnibbaamaaDoor
open Go.RowKit
set_option maxRecDepth 100000

set_option maxHeartbeats 4000000 in
theorem blent_any (a : Option Addr) (c : Nat) (q : List Int) (w : World) (ha : InB w a q) (h0 : a = none → c = 0 ∧ q = []) (hl : q.length + 2 ≤ 140737488355328) :
    Calls Tryd.prog 22 #[.slice a q.length c] w fun e w' => e = .returned (.slice (some ⟨w.heap.size, 0, none⟩) q.length (q.length + 2)) ∧ OwnB w' w.heap.size (.slice (some ⟨w.heap.size, 0, none⟩) (q.length + 2) (q.length + 2)) (q ++ [171, 172]) ∧ Below w.heap.size w w' := by
  obtain ⟨cur, hcur, hmk⟩ := make_any (P := Tryd.prog) 28 5 _ 1 1 Tryd.underlying28 info_byte 0 (q.length + 2) (by omega) (by omega) (by omega)
  replace hmk : ∀ w : World, (Instr.makeSlice 28 (.int .i64 0) (.int .i64 ((q.length : Int) + 2))).run Tryd.prog w = .ok (.slice (some ⟨w.heap.size, 0, none⟩) 0 (q.length + 2)) (w.alloc (.cells cur 5)) := fun w => by have := hmk w; simpa using this
  obtain ⟨i0, hi0, hz0, hz1, hz2⟩ := info_parts info_byte
  have I0 := Lib.hid (And.intro hi0 hz1)
  have HA := Lib.hid (And.intro ha h0)
  have HM := Lib.hid (World.ownsRow_made (base := w.heap.size) (size := 1) (e := 5) w cur (q.length + 2) (Nat.le_refl _) (by unfold maxLen; omega) (by omega))
  clear hi0 hz0 hz1 hz2 ha h0 hcur
  go_enter Tryd.func22, Tryd.ntmps22
  go_wp2_with (first
    | (at_builtin; refine wpList_append_fits_any _ rfl (.tmp 7) (.tmp 8) 28 rfl w.heap.size 5 i0 1 Tryd.underlying28 I0.out.1 I0.out.2 w.heap.size 0 (q.length + 2) [] rfl HM.out a q.length c (btV q) rfl (by rw [btV_len]; omega) (fun h => by obtain ⟨h1, h2⟩ := HA.out.2 h; subst h1 h2; exact ⟨rfl, rfl⟩) (fun ad e j u hj => by subst e; rw [btV, List.getElem?_map, Option.map_eq_some_iff] at hj; obtain ⟨y, hy, rfl⟩ := hj; obtain ⟨bb, oo, e, hc⟩ := (HA.out.1.then_ (below1 _ (.cells cur 5))) j y hy; injection e with e; subst e; rw [show (⟨bb, oo, none⟩ : Addr).add j = ⟨bb, oo + j, none⟩ by unfold Addr.add; split <;> simp_all]; exact hc) (btV_one q) (by omega) ?_; intro w1 own1 grow1; simp only [Nat.zero_add, List.nil_append] at own1 ⊢; have O1 := Lib.hid (And.intro own1 ((below1 w (.cells cur 5)).grown grow1 (by simp) (by simp))); clear own1 grow1)
    | (at_builtin; refine wpList_append_fits_any _ rfl (.tmp 10) (.tmp 11) 28 rfl w.heap.size 5 i0 1 Tryd.underlying28 I0.out.1 I0.out.2 w.heap.size q.length (q.length + 2) (btV q) rfl (O1.out.1.alloc _) (some ⟨w1.heap.size, 0, none⟩) 2 2 (btV [171, 172]) rfl rfl (fun h => by cases h) (fun ad e j u hj => by injection e with e; subst e; exact news_at w1 _ _ _ rfl j u hj) (btV_one _) (by omega) ?_; intro w2 own2 grow2; have O2 := Lib.hid (And.intro own2 ((O1.out.2.alloc O1.out.2.size _).grown grow2 (by have := O1.out.2.size; simp; omega) (by simp))); clear own2 grow2))
  go_ret
  refine ⟨rfl, ?_, O2.out.2⟩
  have h := O2.out.1
  unfold OwnB
  rw [List.length_append, btV_append]
  exact h

theorem OwnB.inB {w : World} {B g n c : Nat} {l : List Int} (h : OwnB w B (.slice (some ⟨g, 0, none⟩) n c) l) : InB w (some ⟨g, 0, none⟩) l := fun i x hx => ⟨g, 0, rfl, by rw [Nat.zero_add]; exact (h.at_ hx).1⟩
theorem InB.prefix_ {w : World} {a : Option Addr} {l m : List Int} (h : InB w a (l ++ m)) : InB w a l := fun i x hx => h i x (by rw [List.getElem?_append_left (lt_of_get hx)]; exact hx)
set_option maxHeartbeats 4000000 in
theorem bkept_any (B g : Nat) (a : Option Addr) (c : Nat) (q : List Int) (w : World) (own : OwnB w B (.slice (some ⟨g, 0, none⟩) (q.length + 2) (q.length + 2)) (q ++ [171, 172])) (ha : InB w a q) (hl : q.length + 2 ≤ 140737488355328) :
    Calls Tryd.prog 25 #[.slice (some ⟨g, 0, none⟩) q.length (q.length + 2), .slice a q.length c] w fun e w' => e = .returned (.bool true) ∧ Only [g] w w' := by
  have m1 : (q ++ [(171 : Int), 172])[q.length]? = some 171 := by simp
  have m2 : (q ++ [(171 : Int), 172])[q.length + 1]? = some 172 := by rw [List.getElem?_append_right (by omega)]; simp
  have HO := Lib.hid (And.intro own (And.intro ha (And.intro m1 m2)))
  have HSM := Lib.hid (bsame_any (some ⟨g, 0, none⟩) a (q.length + 2) c q.length q.length q q w rfl rfl own.inB.prefix_ ha (by omega))
  clear own ha m1 m2
  go_enter Tryd.func25, Tryd.ntmps25
  go_wp2_with (first
    | (go_at_call 18; refine HSM.out.mono ?_; rintro e w2 ⟨rfl, hb2⟩; simp only [decide_true]; have ho := HO.out.1.then_ hb2; have k1 := (ho.at_ HO.out.2.2.1).1; have k2 := (ho.at_ HO.out.2.2.2).1; have O2 := Lib.hid (And.intro ho hb2); clear ho hb2))
  go_loopw [7] (fun i wr => ∃ k : Nat, k ≤ q.length + 2 ∧ i = .int .i64 k ∧ OwnB wr B (.slice (some ⟨g, 0, none⟩) (q.length + 2) (q.length + 2)) (List.replicate k 99 ++ (q ++ [171, 172]).drop k) ∧ Only [g] w wr) (fun i _ => q.length + 2 - (intOf i).toNat)
  case atStart => exact ⟨0, by omega, rfl, by simpa using O2.out.1, Only.of_below O2.out.2⟩
  case round =>
    obtain ⟨k, hk, rfl, ho, hg⟩ := hrel
    have HR := Lib.hid (And.intro ho hg)
    by_cases hkl : k < q.length + 2
    · have hk2 : k < (q ++ [(171 : Int), 172]).length := by simp; omega
      obtain ⟨x, x0, f0⟩ : ∃ x, wr.cell? ⟨g, k, none⟩ = some (.int .u8 x) ∧ wr.frozen? ⟨g, k, none⟩ = false := ⟨_, ho.at_ (j := k) (x := (q ++ [(171 : Int), 172])[k]) (by rw [List.getElem?_append_right (by simp), List.length_replicate, Nat.sub_self, List.getElem?_drop, Nat.add_zero, List.getElem?_eq_getElem hk2])⟩
      have HK := Lib.hid hk2
      clear ho hg hk2 k1 k2
      go_wp2_with fail
      go_roundw
      case rel =>
        obtain ⟨s1, s2⟩ := HR.out.1.set k 99
        rw [fill_set HK.out] at s1
        exact ⟨k + 1, by omega, by go_num, s1, HR.out.2.trans (Only.of_grown s2)⟩
      case measure => simp [intOf]; omega
    · clear ho hg k1 k2
      go_wp2_with fail
      go_ret
      exact ⟨rfl, HR.out.2⟩
end Go.Proofs.YtdlgngnibbaamaaDoor
namespace Go.Proofs.YtdlgngnibbaamaaDoor
open Go.RowKit
set_option maxRecDepth 100000

theorem rd_same {bs : List Int} {d : List Bool} {l l' : List V} {c c' p p' : Int} (h : RdRel bs d l c p) (k : RdRel bs d l' c' p') (f : ∀ x ∈ l, x.fit) (f' : ∀ x ∈ l', x.fit) : l = l' ∧ c = c' ∧ p = p' := by
  rcases h with ⟨h0, rfl, rfl, rfl⟩ | ⟨h0, h1, rfl, rfl, rfl⟩ | ⟨h0, h1, h2, rfl, rfl⟩ | ⟨h0, h1, h2, rfl, rfl, rfl⟩ <;> rcases k with ⟨k0, rfl, rfl, rfl⟩ | ⟨k0, k1, rfl, rfl, rfl⟩ | ⟨k0, k1, k2, rfl, rfl⟩ | ⟨k0, k1, k2, rfl, rfl, rfl⟩
  all_goals first
    | exact ⟨rfl, rfl, rfl⟩
    | exact absurd k0 h0
    | exact absurd h0 k0
    | exact absurd k1 h1
    | exact absurd h1 k1
    | skip
  · obtain ⟨e1, e2, e3⟩ := h2.1 rfl
    exact ⟨(k2.2 l e1 (fun x hx => ⟨e2 x hx, f x hx⟩) e3).2.symm, rfl, rfl⟩
  · obtain ⟨e1, e2, e3⟩ := h2.1 rfl
    have := (k2.2 l e1 (fun x hx => ⟨e2 x hx, f x hx⟩) e3).1
    cases this
  · obtain ⟨e1, e2, e3⟩ := k2.1 rfl
    have := (h2.2 l' e1 (fun x hx => ⟨e2 x hx, f' x hx⟩) e3).1
    cases this
theorem fit_all {w : World} {B : Nat} {a : Option Addr} {c : Nat} {ts : List T} (h : (holdL a c ts).Own w B) : ∀ x ∈ ts.map T.val, x.fit := fun v hv => by
  obtain ⟨t, ht, rfl⟩ := List.mem_map.1 hv
  exact T.ok.fit t (h.ok.parts.2.2.2.2.2.2.2.2.2.1 t ht)
theorem holdL_partsR {w : World} {B : Nat} {a : Option Addr} {c : Nat} {ts : List T} (h : (holdL a c ts).Own w B) : InL w a ts ∧ (∀ x ∈ ts, x.ok) ∧ okLen (ts.length * 80) :=
  ⟨h.in_.parts.1, h.ok.parts.2.2.2.2.2.2.2.2.2.1, h.ok.parts.2.2.2.2.2.2.1⟩
theorem onlyG_below {w a b : World} {g : Nat} (h : Below w.heap.size w a) (ho : Only [g] a b) (hg : w.heap.size ≤ g) : Below w.heap.size w b :=
  ⟨ho.os.trans h.os, ho.tape.trans h.tape, ho.output.trans h.output, Nat.le_trans h.size ho.size, fun k hk => (ho.block k (Nat.lt_of_lt_of_le hk h.size) (by simp; omega)).trans (h.block k hk)⟩

set_option maxHeartbeats 8000000 in
theorem kreads_law (la : Option Addr) (ca : Nat) (b : List Int) (ld : Option Addr) (cd : Nat) (d : List Bool) (w : World) (ha : InB w la b) (hd : InF w ld d) (hb : isB b) (h0 : la = none → ca = 0 ∧ b = []) (nb : b.length ≤ ca ∧ ca ≤ 140737488351232) (nd : d.length ≤ 140737488351232) (hT : Tabs w) :
    Calls Tryd.prog 9 #[.slice la b.length ca, .slice ld d.length cd] w fun e w' => e = .returned (.bool true) ∧ Below w.heap.size w w' := by
  have HA := Lib.hid (And.intro ha (And.intro hd (And.intro hb (And.intro h0 hT))))
  clear ha hd hb h0 hT
  go_enter Tryd.func9, Tryd.ntmps9
  go_wp2_with fail
  refine (awake03_any _ HA.out.2.2.2.2).mono ?_
  rintro e w1 ⟨rfl, b1⟩
  have z1 := b1.size
  have B1 := Lib.hid b1
  clear b1
  go_wp2_with fail
  refine (blent_any la ca b w1 (HA.out.1.then_ B1.out) HA.out.2.2.2.1 (by omega)).mono ?_
  rintro e w2 ⟨rfl, o2, b2⟩
  have z2 := (o2.block _ rfl).2
  have B2 := Lib.hid (below_then B1.out b2)
  have O2 := Lib.hid o2
  clear b2 o2 B1
  go_wp2_with fail
  refine (read_any (some ⟨w1.heap.size, 0, none⟩) (b.length + 2) b ld cd d w2 O2.out.inB.prefix_ (HA.out.2.1.then_ B2.out) HA.out.2.2.1 (by omega) (by omega) (HA.out.2.2.2.2.then_ B2.out)).mono ?_
  rintro e w3 ⟨al, cl, ts, code, place, rfl, hy, b3, hr⟩
  have z3 := b3.size
  have B3 := Lib.hid (below_then B2.out (below_then b3 (below1 w3 (.cells #[.int .i64 code, .int .i64 place] 36))))
  have O3 := Lib.hid ((O2.out.then_ b3).then_ (below1 w3 (.cells #[.int .i64 code, .int .i64 place] 36)))
  have Y3 := Lib.hid (hy.keep (Only.of_below (S := []) (below1 w3 (.cells #[.int .i64 code, .int .i64 place] 36))) (by simp) (Nat.le_refl _))
  have R3 := Lib.hid hr
  clear b3 hy hr B2 O2
  go_wp2_with fail
  refine (bkept_any w1.heap.size w1.heap.size la ca b _ O3.out (HA.out.1.then_ B3.out) (by omega)).mono ?_
  rintro e w4 ⟨rfl, g4⟩
  have B4 := Lib.hid (onlyG_below B3.out g4 z1)
  have Y4 := Lib.hid (Y3.out.keep g4 (by simp; omega) (Nat.le_refl _))
  have r4 := keep_row g4 (heap_alloc_new w3 (.cells #[.int .i64 code, .int .i64 place] 36)) (by simp; omega)
  have F4 := Lib.hid r4
  clear g4 r4 O3 Y3 B3
  go_wp2_with fail
  refine (refRead_any la ca b ld cd d w4 (HA.out.1.then_ B4.out) (HA.out.2.1.then_ B4.out) HA.out.2.2.1 (by omega) (by omega) (HA.out.2.2.2.2.then_ B4.out)).mono ?_
  rintro e w5 ⟨ar, cr, rs, code', place', rfl, hy, b5, hr⟩
  obtain ⟨ev, rfl, rfl⟩ := rd_same R3.out hr (fit_all Y4.out) (fit_all hy)
  have hlen : rs.length = ts.length := by have := congrArg List.length ev; simpa using this.symm
  rw [hlen]
  have HLEN := Lib.hid hlen
  have EV := Lib.hid ev
  have hx : Below w4.heap.size w4 (w5.alloc (.cells #[.int .i64 code, .int .i64 place] 36)) := below_then b5 (below1 _ _)
  have B5 := Lib.hid (below_then B4.out hx)
  have Y5 := Lib.hid (holdL_partsR (Y4.out.keep (Only.of_below (S := []) hx) (by simp) (Nat.le_refl _)))
  have Z5 := Lib.hid (holdL_partsR (hy.keep (Only.of_below (S := []) (below1 w5 (.cells #[.int .i64 code, .int .i64 place] 36))) (by simp) (Nat.le_refl _)))
  have F5 := Lib.hid (row_then F4.out hx)
  have G5 := Lib.hid (heap_alloc_new w5 (.cells #[.int .i64 code, .int .i64 place] 36))
  clear hr b5 hy ev hlen hx F4 Y4 B4 R3
  go_wp2_with fail
  refine (sameList_any al ar cl cr ts.length ts rs _ rfl HLEN.out Y5.out.1 Z5.out.1 (by have h : ts.length * 80 ≤ 140737488351232 := Y5.out.2.2; omega) Y5.out.2.1 Z5.out.2.1 EV.out).mono ?_
  rintro e w6 ⟨rfl, b6⟩
  have c1 := row_cells (row_then F5.out b6)
  have c2 := row_cells (row_then G5.out b6)
  have B6 := Lib.hid (below_then B5.out b6)
  clear b6 F5 G5 Y5 Z5 B5
  go_wp2_with fail
  go_ret
  exact ⟨ret_bool (by simp), B6.out⟩
end Go.Proofs.YtdlgngnibbaamaaDoor
namespace Go.Proofs.YtdlgngnibbaamaaDoor
open Go.RowKit Go.ChangeShapes Go.WideShapes Go.ChangeAt
set_option maxRecDepth 100000

theorem kreads_lifted (os : Os) (started : os.Started) (H : Type) (enc : TypeId × Value → H) :
    ReturnsInHanded {} Tryd.checked os 9 .any (fun w args => (Rows.keyReadsSpec.pre enc Tryd.prog Tryd.f9 [] false w args ∧ laidMetH Tryd.prog laidAll w) ∧ sizedMet enc Tryd.prog Tryd.f9 (OpenSpec.ofChange Rows.keyReadsSpec) false w args)
      (Rows.keyReadsSpec.post enc Tryd.prog Tryd.f9 false true false false) := by
  refine returnsInHanded_of_change_and (C := Tryd.checked) (X := fun w _ => laidMetH Tryd.prog laidAll w) (fun _ _ _ hh h => h.of_heap hh) own started (by kernel_rfl) Tryd.func9
    (ChangeSpec.witness_shaped (enc := enc) (C := Tryd.checked) (os := os) (X := fun w _ => laidMetH Tryd.prog laidAll w) false (World.laidAll Tryd.prog os laidAll) #[.slice none 0 0, .slice none 0 0] 8 (World.laidAll_os _ _ _)
      (World.shaped_of_ZipB (by kernel_rfl) (by kernel_rfl)) (by kernel_rfl) (by kernel_rfl) (by kernel_rfl)
      (by rw [MakeChecks.laidMetH_plain _ _ _ (by kernel_rfl)]; exact laidMet_laidAll _ (by kernel_rfl) (by kernel_rfl))) ?_
  intro W base args ds gs before hval0 hW _ hreach hL _
  have hval : ∀ (j : Nat) t v, Tryd.f9.params[j]? = some t → args[j]? = some v → Value.okWide Tryd.prog W .any base t v := hval0
  have hW' := hW
  obtain ⟨p, q, hA0, hV, rfl, _, _⟩ := hW
  have hA : DataW.TrodAll enc Tryd.prog W 0 (fun _ => true) true Tryd.f9.params.toList args.toList ds p := hA0
  rw [Tryd.params9] at hA hval
  obtain ⟨v0, v1, d0, d1, p0, p1, rfl, rfl, rfl, h0, h1⟩ := trodAll_two hA
  obtain ⟨rfl, rfl⟩ := trodVars_none hV
  have hre : reached (DataW.weightsEach Tryd.prog [28, 48] [d0, d1]) := hreach
  simp only [DataW.weightsEach, reached_append] at hre
  obtain ⟨r0, r1, -⟩ := hre
  obtain ⟨la, lca, a, rfl, ha, hba, hca, hna⟩ := open_bytes (hval 0 28 v0 rfl rfl) h0 r0
  obtain ⟨ld, lcd, d, rfl, hd, hdc, -⟩ := open_flags (hval 1 48 v1 rfl rfl) h1 r1
  rw [MakeChecks.laidMetH_plain _ _ _ (by kernel_rfl)] at hL
  have hlt := hW'.lt
  refine (kreads_law la lca a ld lcd d W ha hd hba (fun h => ⟨hna h, List.eq_nil_of_length_eq_zero (by have := hna h; omega)⟩) hca (by omega) (tabs_of_laid hL)).mono fun e W' ⟨he, hbel⟩ => ?_
  subst he
  exact ⟨_, rfl, _, _, _, [], _, [], hW', trodAll_mk1 (shut_bool Tryd.underlying4 _), trodAll_mk2 (back_bytes h0 hbel (fun x hx => hlt x (by simp [hx]))) (back_flags h1 hbel (fun x hx => hlt x (by simp [hx]))), rfl, hbel.frame _, fun h => by cases h⟩

theorem kreads_said : Rows.KeyReadsSaid :=
  OpenClaim.holds_of_wide 9 Tryd.f9 rfl rfl rfl rfl rfl rfl rfl ⟨rfl, rfl, rfl, rfl, rfl⟩ rfl rfl rfl rfl rfl (by kernel_rfl) Tryd.func9 (by kernel_rfl)
    (of_decide_eq_true (by kernel_rfl)) (by unfold Func.isWrapper; first | (rw [if_pos (by decide +kernel)]; kernel_rfl) | (rw [if_neg (by decide +kernel)]; exact ⟨rfl, rfl⟩))
    (fun os started H enc _ => kreads_lifted os started H enc)
theorem kreads_holds : Rows.KeyReadsCardSaid :=
  Claim7.holds_tied_plain_at .later [] [.data, .pinned] true (true, "21a03ac7935c1feeb3c32a0c4c435d4782e9ebe3010cc6c8401fdde3c17531be") true kreads_said (fun _ h => by cases h) (by kernel_rfl) (fun _ h => by cases h) keyReads_row_tie rfl ⟨rfl, rfl⟩ (by kernel_rfl) rfl
    (fun f fn hf hfn => by
      obtain rfl : f = 9 := Option.some.inj ((show Tryd.prog.funcNamed "coffret/coffretlaw03.KeyReads" = some 9 by kernel_rfl).symm.trans hf) |>.symm
      obtain rfl : fn = Tryd.f9 := (Option.some.inj (Tryd.func9.symm.trans hfn)).symm
      exact ⟨by kernel_rfl, fun j t ht => by
        rw [Tryd.params9] at ht
        have hm : t ∈ [28, 48] := by simpa using Array.mem_of_getElem? ht
        have hall : ([28, 48].all fun u => !Tryd.prog.wantsStandIn u) = true := by kernel_rfl
        exact (show Tryd.prog.wantsStandIn t = false by simpa using List.all_eq_true.1 hall t hm)⟩)
    (by kernel_rfl)
#print axioms kreads_holds
end Go.Proofs.YtdlgngnibbaamaaDoor
