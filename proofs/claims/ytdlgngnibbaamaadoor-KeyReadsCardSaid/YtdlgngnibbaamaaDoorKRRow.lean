/- The contract of keyenc's readRow: no statement is proved here. -/
import Derived.Test.YtdlgngnibbaamaaDoorKRVal2
import Derived.Test.YtdlgngnibbaamaaDoorKRow2
import Derived.Test.YtdlgngnibbaamaaDoorKKey
namespace Go.Proofs.YtdlgngnibbaamaaDoor
open Go.RowKit
set_option maxRecDepth 100000

theorem right_shape_of {v : V} (h : rightOf v = 0) : v.shape = true := by
  unfold rightOf at h
  split at h
  · cases h
  · exact right_shape v 1 h
/-- What a row's reading says. -/
def RowRel (bs : List Int) (d : List Bool) (l : List V) (ok : Bool) : Prop := (ok = true → l.length = d.length ∧ (∀ x ∈ l, rightOf x = 0) ∧ bs = keyR l d) ∧ (∀ l', l'.length = d.length → (∀ x ∈ l', rightOf x = 0 ∧ x.fit) → bs = keyR l' d → ok = true ∧ l = l')
structure RowInv (bs : List Int) (d : List Bool) (acc : List V) (i : Nat) : Prop where
  eq : bs = keyR acc (d.take acc.length) ++ bs.drop i
  all : ∀ l', l'.length = d.length → (∀ x ∈ l', rightOf x = 0 ∧ x.fit) → bs = keyR l' d → ∃ l'', l' = acc ++ l'' ∧ bs.drop i = keyR l'' (d.drop acc.length)
  right : ∀ x ∈ acc, rightOf x = 0
  len : acc.length ≤ d.length
theorem RowInv.start (bs : List Int) (d : List Bool) : RowInv bs d [] 0 := ⟨by simp [keyR], fun l' _ _ h => ⟨l', rfl, by simpa using h⟩, by simp, by simp⟩
/-- What is read next stands there. -/
theorem RowInv.next {bs : List Int} {d : List Bool} {acc : List V} {i : Nat} {f : Bool} {l' l'' : List V} (hf : d[acc.length]? = some f) (hl : l'.length = d.length) (he : l' = acc ++ l'') (hk : bs.drop i = keyR l'' (d.drop acc.length)) : ∃ y r, l'' = y :: r ∧ tf f (bs.drop i) = keyV y ++ tf f (keyR r (d.drop (acc.length + 1))) := by
  have hlt := lt_of_get hf
  cases l'' with
  | nil => rw [he] at hl; simp at hl; omega
  | cons y r =>
    refine ⟨y, r, rfl, ?_⟩
    obtain ⟨h1, rfl⟩ := List.getElem?_eq_some_iff.1 hf
    rw [hk, List.drop_eq_getElem_cons h1, keyR, tf_append]
    congr 1
    show tf d[acc.length] (tf d[acc.length] (keyV y)) = keyV y
    exact tf_tf _ _
theorem RowInv.more {bs : List Int} {d : List Bool} {acc : List V} {i j : Nat} {f : Bool} {v : V} {R' : List Int} (h : RowInv bs d acc i) (hf : d[acc.length]? = some f) (hv : VRel (tf f (bs.drop i)) v true R') (hr : rightOf v = 0) (hj : tf f (bs.drop j) = R') : RowInv bs d (acc ++ [v]) j := by
  have hlt := lt_of_get hf
  have e1 := hv.1 rfl (right_shape_of hr)
  have e2 : bs.drop i = tf f (keyV v) ++ bs.drop j := by
    have := congrArg (tf f) e1
    rw [tf_tf, tf_append, ← hj, tf_tf] at this
    exact this
  refine ⟨?_, fun l' hl hg e => ?_, fun x hx => ?_, by simp; omega⟩
  · conv => lhs; rw [h.eq]
    rw [List.length_append, List.length_singleton, List.take_add_one, hf, keyR_append _ _ _ _ (by rw [List.length_take]; omega), List.append_assoc, e2]
    simp only [Option.toList_some, keyR, List.append_nil]
    rfl
  · obtain ⟨l'', e3, e4⟩ := h.all l' hl hg e
    obtain ⟨y, r, rfl, e5⟩ := RowInv.next hf hl e3 e4
    have hy := hg y (by rw [e3]; simp)
    obtain ⟨-, rfl, e6⟩ := hv.2.1 y _ (right_shape_of hy.1) hy.2 e5
    refine ⟨r, by rw [e3]; simp, ?_⟩
    rw [List.length_append, List.length_singleton, ← tf_tf f (bs.drop j), hj, e6, tf_tf]
  · rcases List.mem_append.1 hx with hx | hx
    · exact h.right x hx
    · simp at hx; subst hx; exact hr
theorem RowInv.stop {bs : List Int} {d : List Bool} {acc : List V} {i : Nat} {f : Bool} {v : V} {R' : List Int} {ok : Bool} (h : RowInv bs d acc i) (hf : d[acc.length]? = some f) (hv : VRel (tf f (bs.drop i)) v ok R') (hr : ok = false ∨ rightOf v ≠ 0) : RowRel bs d [] false := by
  refine ⟨fun h => (by cases h), fun l' hl hg e => ?_⟩
  obtain ⟨l'', e3, e4⟩ := h.all l' hl hg e
  obtain ⟨y, r, rfl, e5⟩ := RowInv.next hf hl e3 e4
  have hy := hg y (by rw [e3]; simp)
  obtain ⟨q1, q2, -⟩ := hv.2.1 y _ (right_shape_of hy.1) hy.2 e5
  rcases hr with hr | hr
  · rw [hr] at q1; cases q1
  · rw [q2] at hr; exact absurd hy.1 hr
theorem RowInv.done {bs : List Int} {d : List Bool} {acc : List V} {i : Nat} (h : RowInv bs d acc i) (hk : d.length ≤ acc.length) (hi : bs.length ≤ i) : RowRel bs d acc true := by
  have hl : acc.length = d.length := by have := h.len; omega
  refine ⟨fun _ => ⟨hl, h.right, ?_⟩, fun l' hl' hg e => ⟨rfl, ?_⟩⟩
  · have := h.eq
    rw [List.drop_eq_nil_of_le hi, List.append_nil, List.take_of_length_le (by omega)] at this
    exact this
  · obtain ⟨l'', e3, e4⟩ := h.all l' hl' hg e
    cases l'' with
    | nil => rw [e3]; simp
    | cons y r => rw [e3] at hl'; simp at hl'; omega
theorem RowInv.over {bs : List Int} {d : List Bool} {acc : List V} {i : Nat} (h : RowInv bs d acc i) (hk : d.length ≤ acc.length) (hi : i < bs.length) : RowRel bs d [] false := by
  refine ⟨fun h => (by cases h), fun l' hl' hg e => ?_⟩
  obtain ⟨l'', e3, e4⟩ := h.all l' hl' hg e
  cases l'' with
  | nil =>
    simp [keyR] at e4
    omega
  | cons y r => rw [e3] at hl'; simp at hl'; omega

structure RowAt (w wr : World) (ba : Option Addr) (bc : Nat) (bs : List Int) (d : List Bool) (a : Option Addr) (c : Nat) (ts : List T) (i : Nat) (f : Bool) : Prop where
  own : (holdL a c ts).Own wr (w.heap.size + 3)
  src : SrcAt wr w.heap.size ⟨ba, bc, bs, f⟩ i
  below : Below w.heap.size w wr
  inv : RowInv bs d (ts.map T.val) i
/-- The turning is told anew. -/
theorem SrcAt.turn {w : World} {B : Nat} {K : Ctx} {i : Nat} (h : SrcAt w B K i) (f : Bool) : SrcAt (w.setCell ⟨B + 2, 0, none⟩ (.bool f)) B ⟨K.a, K.c, K.bs, f⟩ i := by
  have ho := only_set w (B + 2) (.bool f)
  refine ⟨keep_row ho h.box (by simp), keep_row ho h.place (by simp), ?_, fun i x hx => ?_, h.low, h.le, h.room, h.byte⟩
  · rw [heap_setCell_same _ _ _ _ _ _ h.falls]; rfl
  · obtain ⟨b, o, e, hc⟩ := h.inb i x hx
    refine ⟨b, o, e, (World.cell?_of_block (ho.block b (cell_lt hc) ?_)).trans hc⟩
    have hx2 := lt_of_get hx
    simp only at hx2
    have := h.low b o e (by omega)
    simp; omega
theorem SrcAt.only {w w' : World} {B : Nat} {K : Ctx} {i : Nat} {S : List Nat} (h : SrcAt w B K i) (ho : Only S w w') (hS : ∀ b ∈ S, B + 3 ≤ b) : SrcAt w' B K i := by
  have hB : ∀ b, b < B + 3 → b ∉ S := fun b hb hc => by have := hS b hc; omega
  refine ⟨keep_row ho h.box (hB _ (by omega)), keep_row ho h.place (hB _ (by omega)), keep_row ho h.falls (hB _ (by omega)), fun i x hx => ?_, h.low, h.le, h.room, h.byte⟩
  obtain ⟨b, o, e, hc⟩ := h.inb i x hx
  have := h.low b o e (by have := lt_of_get hx; omega)
  exact ⟨b, o, e, (World.cell?_of_block (ho.block b (cell_lt hc) (hB b (by omega)))).trans hc⟩
theorem holdL_made (w : World) (cur : Array Value) (n B : Nat) (hs : cur.size = n * 5) (hn : n ≤ 4) (hB : B ≤ w.heap.size) : (holdL (some ⟨w.heap.size, 0, none⟩) n []).Own (w.alloc (.cells cur 25)) B := by
  refine ⟨by simp [holdL, T.ok, T.okL, T.okD, okInt, okLen, okFar, ByteArray.size]; omega, fun r hr => ?_, by simp [holdL, T.rows, T.rowsL, T.rowsD, blocksOf, Value.ownBlock]⟩
  simp [holdL, T.rows, T.rowsL, T.rowsD] at hr
  rcases hr with rfl | rfl
  · exact World.ownsRow_made w cur n hB (by unfold maxLen; omega) hs
  · exact World.ownsRow_nil _ _ _ _
theorem RowAt.row {w wr wX : World} {ba a : Option Addr} {bc c i : Nat} {bs : List Int} {d : List Bool} {ts : List T} {f : Bool} (h : RowAt w wr ba bc bs d a c ts i f) (ho : Only [w.heap.size + 1, w.heap.size + 2] wr wX) : wX.ownsRow (w.heap.size + 3) 25 5 (.slice a ts.length c) ts.length (ts.flatMap T.cells) :=
  own_rowL (h.own.keep ho (by simp) (Nat.le_refl _))
theorem RowAt.step {w wr W1 w2 wX w4 : World} {ba a : Option Addr} {bc c i j g cap : Nat} {bs : List Int} {d : List Bool} {ts : List T} {f0 f : Bool} {y : T} {R' : List Int} (h : RowAt w wr ba bc bs d a c ts i f0) (hf : d[ts.length]? = some f) (ho : Only [w.heap.size + 2] wr W1) (hsz : W1.heap.size = wr.heap.size)
    (ho2 : Only [w.heap.size + 1] W1 w2) (hy : y.Own w2 W1.heap.size) (hs : SrcAt w2 w.heap.size ⟨ba, bc, bs, f⟩ j) (hj : (tf f bs).drop j = R') (hv : VRel ((tf f bs).drop i) y.val true R') (hr : rightOf y.val = 0) (hX : Below w2.heap.size w2 wX)
    (hrow : w4.ownsRow (w.heap.size + 3) 25 5 (.slice (some ⟨g, 0, none⟩) (ts.length + 1) cap) (ts.length + 1) (ts.flatMap T.cells ++ y.cells)) (hg : wX.grownBy w4 (Value.slice a ts.length c).ownBlock) (hat : (Value.slice a ts.length c).ownBlock = some g ∨ g = wX.heap.size) (hd : d.length ≤ 4) :
    RowAt w w4 ba bc bs d (some ⟨g, 0, none⟩) cap (ts ++ [y]) j f := by
  have oX : Only [w.heap.size + 1, w.heap.size + 2] wr wX := ((ho.sub (by simp)).trans (ho2.sub (by simp))).trans (Only.of_below hX)
  obtain ⟨wm, hsm, om, bm⟩ := only_split oX
  have hlt := lt_of_get hf
  have hblk : ∀ b, (Value.slice a ts.length c).ownBlock = some b → w.heap.size + 3 ≤ b := fun b hb => ((h.row oX).lt b hb).1
  have hown := own_addL (h.own.keep om (by simp) (Nat.le_refl _)) (hy.keep (Only.of_below (S := []) hX) (by simp) (Nat.le_refl _)) bm (by rw [hsm, hsz]; exact Nat.le_refl _) (by rw [hsz]; exact h.src.size) (by unfold okLen; omega) (cap_of hrow) hrow hg (hat.imp id (fun e => by omega))
  have o3 : Only (Value.slice a ts.length c).ownBlock.toList wX w4 := only_grow hg
  refine ⟨hown, (hs.only (Only.of_below (S := []) hX) (by simp)).only o3 (fun b hb => hblk b (by simpa using hb)), ?_, ?_⟩
  · have h1 := ((Only.of_below (S := []) h.below).then_ oX (by simp)).then_ o3 (fun b hb => .inr (by have := hblk b (by simpa using hb); omega))
    exact h1.below
  · rw [List.map_append]
    have hf2 : d[(ts.map T.val).length]? = some f := by rw [List.length_map]; exact hf
    exact h.inv.more hf2 (by rw [tf_drop]; exact hv) hr (by rw [tf_drop]; exact hj)
def ReadsRow (bs : List Int) (d : List Bool) (w : World) (e : Ending) (w' : World) : Prop := ∃ a c ts ok, e = .returned (.tuple #[.slice a ts.length c, .bool ok]) ∧ (holdL a c ts).Own w' w.heap.size ∧ Below w.heap.size w w' ∧ RowRel bs d (ts.map T.val) ok

set_option maxHeartbeats 4000000 in
theorem readRow_any (ba : Option Addr) (bc : Nat) (bs : List Int) (lb : Option Addr) (cb : Nat) (d : List Bool) (w : World) (ha : InB w ba bs) (hf : InF w lb d) (hb : isB bs) (hl : bs.length ≤ 1000) (hd : d.length ≤ 4) (hT : Tabs w) :
    Calls Tryd.prog 52 #[.slice ba bs.length bc, .slice lb d.length cb] w (ReadsRow bs d w) := by
  obtain ⟨cur, hcur, hmk⟩ := make_any (P := Tryd.prog) 22 25 _ 5 80 Tryd.underlying22 info_value 0 d.length (by omega) (by omega) (by omega)
  replace hmk : ∀ w : World, (Instr.makeSlice 22 (.int .i64 0) (.int .i64 (d.length : Int))).run Tryd.prog w = .ok (.slice (some ⟨w.heap.size, 0, none⟩) 0 d.length) (w.alloc (.cells cur 25)) := fun w => by have := hmk w; simpa using this
  obtain ⟨i0, hi0, hz0, hz1, hz2⟩ := info_parts info_value
  have I0 := Lib.hid (And.intro hi0 (And.intro hz0 (And.intro hz1 hz2)))
  have HA := Lib.hid (And.intro ha (And.intro hf (And.intro hb hT)))
  have HC := Lib.hid hcur
  clear hi0 hz0 hz1 hz2 ha hf hb hT hcur
  go_enter Tryd.func52, Tryd.ntmps52
  go_wp2_with fail
  simp only [Nat.add_assoc, Nat.reduceAdd]
  go_loopw [9, 18] (fun u n wr => ∃ a c ts i f, u = .slice a ts.length c ∧ n = .int .i64 (ts.length : Nat) ∧ RowAt w wr ba bc bs d a c ts i f) (fun _ n _ => d.length - (intOf n).toNat)
  case atStart =>
    have hb4 : Below w.heap.size w ((((w.alloc (.cells #[.slice ba bs.length bc] 28)).alloc (.cells #[.int .i64 0] 3)).alloc (.cells #[.bool false] 4)).alloc (.cells cur 25)) := (below3 w _ _ _).alloc (by simp; omega) _
    have hown := holdL_made (((w.alloc (.cells #[.slice ba bs.length bc] 28)).alloc (.cells #[.int .i64 0] 3)).alloc (.cells #[.bool false] 4)) cur d.length (w.heap.size + 3) HC.out (by omega) (by simp)
    simp only [World.size_alloc, Nat.add_assoc, Nat.reduceAdd] at hown
    refine ⟨some ⟨w.heap.size + 3, 0, none⟩, d.length, [], 0, false, rfl, rfl, hown, ⟨?_, ?_, ?_, ?_, ?_, Nat.zero_le _, hl, HA.out.2.2.1⟩, hb4, RowInv.start bs d⟩
    · exact row_then (row_then (row_then (heap_alloc_new w _) (below1 _ _)) (below1 _ _)) (below1 _ _)
    · exact row_then (row_then (heap_alloc_at _ _ _ (by simp)) (below1 _ _)) (below1 _ _)
    · exact row_then (heap_alloc_at _ _ _ (by simp)) (below1 _ _)
    · exact HA.out.1.then_ hb4
    · intro b o e h1
      obtain ⟨b', o', e', hc⟩ := HA.out.1 0 _ (List.getElem?_eq_getElem h1)
      have e2 : ba = some ⟨b, o, none⟩ := e
      rw [e2] at e'
      injection e' with e'
      injection e' with e1 e2
      subst e1
      exact cell_lt hc
  case round =>
    clear hmk HC
    obtain ⟨a, c, ts, i, f0, rfl, rfl, hR⟩ := hrel
    have HR := Lib.hid hR
    have hle := hR.inv.len
    rw [List.length_map] at hle
    clear hR
    by_cases h1 : ts.length < d.length
    · obtain ⟨f, hfx⟩ : ∃ f, d[ts.length]? = some f := ⟨_, List.getElem?_eq_getElem h1⟩
      obtain ⟨b2, o2, rfl, x0⟩ := (HA.out.2.1.then_ HR.out.below) _ f hfx
      have HF := Lib.hid hfx
      have c2 := row_cells HR.out.src.falls
      have g2 := (fun o => frozen_of_row _ _ o _ _ HR.out.src.falls)
      have HW := Lib.hid (readValue_any 1000 ((tf f bs).drop i) (by rw [List.length_drop, tf_len]; omega) (wr.setCell ⟨w.heap.size + 2, 0, none⟩ (.bool f)) w.heap.size ⟨ba, bc, bs, f⟩ ⟨i, HR.out.src.turn f, rfl⟩)
      have HO := Lib.hid (And.intro (only_set wr (w.heap.size + 2) (.bool f)) (show (wr.setCell ⟨w.heap.size + 2, 0, none⟩ (.bool f)).heap.size = wr.heap.size by simp [World.setCell]))
      clear hfx
      go_wp2_with (first
        | (go_at_call 85; refine HW.out.mono ?_; rintro e w2 ⟨⟨ky, ny, sy, lay, lcy, ly, day, dcy, dy⟩, ok, R', rfl, hy, ⟨j, hsj, hj⟩, ho2, hv⟩; dsimp only [T.arg, T.cells]; have hbl := ((((Only.of_below (S := []) HR.out.below).then_ HO.out.1 (by simp)).then_ ho2 (by simp))).below; have HQ := Lib.hid (right_any _ hy.ok (w2.alloc (.cells #[.int .i64 ky, .int .i64 ny, .string sy, .slice lay ly.length lcy, .slice day dy.length dcy] 25)) ((owns_in _ hy.owns).then_ (below1 _ _)) ((HA.out.2.2.2.then_ hbl).then_ (below1 _ _))); have S2 := Lib.hid (And.intro hy (And.intro hsj (And.intro hj (And.intro ho2 (And.intro hv hbl))))); clear hy hsj hj ho2 hv hbl; rcases ok with _ | _)
        | (go_at_call 27; refine HQ.out.mono ?_; rintro e w3 ⟨rfl, hb3⟩; have c3 := (fun X => row_cells (row_then (row_then (heap_alloc_new w2 (.cells #[.int .i64 ky, .int .i64 ny, .string sy, .slice lay ly.length lcy, .slice day dy.length dcy] 25)) hb3) (below1 w3 X))); have c3' := row_cells (row_then (heap_alloc_new w2 (.cells #[.int .i64 ky, .int .i64 ny, .string sy, .slice lay ly.length lcy, .slice day dy.length dcy] 25)) hb3); have B3 := Lib.hid (below_then (below1 w2 (.cells #[.int .i64 ky, .int .i64 ny, .string sy, .slice lay ly.length lcy, .slice day dy.length dcy] 25)) hb3); clear hb3; generalize hrv : rightOf (T.val (.mk ky ny sy lay lcy ly day dcy dy)) = rv; replace hrv := Lib.hid hrv; by_cases hr0 : rv = 0; (subst hr0); rotate_left; (have hne : ((rv : Int) != 0) = true := by simp [hr0]); (have HN := Lib.hid hr0; clear hr0); rotate_left)
        | (at_builtin; refine wpList_append_lies _ rfl (.tmp 34) (.tmp 36) 22 rfl (w.heap.size + 3) 25 i0 _ 5 80 Tryd.underlying22 I0.out.1 I0.out.2.1 I0.out.2.2.1 I0.out.2.2.2 rfl (by decide) _ ts.length (ts.flatMap T.cells) rfl (HR.out.row (((HO.out.1.sub (by simp)).trans (S2.out.2.2.2.1.sub (by simp))).trans (Only.of_below (B3.out.alloc B3.out.size _)))) ⟨w3.heap.size, 0, none⟩ 1 1 [.int .i64 ky, .int .i64 ny, .string sy, .slice lay ly.length lcy, .slice day dy.length dcy] rfl rfl (news_at _ _ _ _ rfl) (by simp [Value.oneCell']) (by omega) (by unfold maxLen; omega) (by omega) (by have := HR.out.src.size; have := HO.out.2; have := S2.out.2.2.2.1.size; have := B3.out.size; simp; omega) _ rfl ?_; intro g cap w4 hrow hgrow hat _; have G4 := Lib.hid (HR.out.step HF.out HO.out.1 HO.out.2 S2.out.2.2.2.1 S2.out.1 S2.out.2.1 S2.out.2.2.1 S2.out.2.2.2.2.1 hrv.out (B3.out.alloc B3.out.size _) hrow hgrow hat hd); clear hrow hgrow hat))
      · go_ret2
        exact ⟨none, 0, [], false, rfl, holdL_start _ _, below_then S2.out.2.2.2.2.2 (below1 _ _), HR.out.inv.stop (by rw [List.length_map]; exact HF.out) (by rw [tf_drop]; exact S2.out.2.2.2.2.1) (.inl rfl)⟩
      · go_roundw
        case rel => exact ⟨_, _, _, _, _, by rw [List.length_append]; rfl, by rw [List.length_append]; rfl, G4.out⟩
        case measure => simp [intOf]; omega
      · go_ret2
        exact ⟨none, 0, [], false, rfl, holdL_start _ _, below_then S2.out.2.2.2.2.2 B3.out, HR.out.inv.stop (by rw [List.length_map]; exact HF.out) (by rw [tf_drop]; exact S2.out.2.2.2.2.1) (.inr (by rw [hrv.out]; exact HN.out))⟩
    · have c0 := row_cells HR.out.src.box
      have c1 := row_cells HR.out.src.place
      have hil := HR.out.src.le
      simp only at hil
      by_cases hi : i < bs.length
      · go_wp2_with fail
        go_ret2
        exact ⟨none, 0, [], false, rfl, holdL_start _ _, HR.out.below, HR.out.inv.over (by rw [List.length_map]; omega) hi⟩
      · go_wp2_with fail
        go_ret2
        exact ⟨a, c, ts, true, rfl, HR.out.own.keep (Only.refl [] _) (by simp) (by omega), HR.out.below, HR.out.inv.done (by rw [List.length_map]; omega) (by omega)⟩
#print axioms readRow_any
end Go.Proofs.YtdlgngnibbaamaaDoor
