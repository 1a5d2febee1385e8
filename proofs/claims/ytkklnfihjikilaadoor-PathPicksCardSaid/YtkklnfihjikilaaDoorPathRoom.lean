/- slices.Clip, and the contracts of padded and withRoom: no statement is proved here. -/
import Derived.Test.YtkklnfihjikilaaDoorPathRep
namespace Go.Proofs.YtkklnfihjikilaaDoor
open Go.RowKit
set_option maxRecDepth 100000

theorem clip_any (la : Option Addr) (n c : Nat) (w : World) (h : n ≤ c) (hc : c ≤ 9223372036854775807) (hn : la = none → c = 0) : Calls Tryd.prog 87 #[.slice la n c] w fun e w' => e = .returned (.slice la n n) ∧ w' = w := by
  cases la with
  | none =>
    have := hn rfl
    subst this
    obtain rfl : n = 0 := by omega
    go_enter Tryd.func87, Tryd.ntmps87
    go_wp2_with fail
    go_ret
    exact ⟨rfl, rfl⟩
  | some a =>
    go_enter Tryd.func87, Tryd.ntmps87
    go_wp2_with fail
    go_ret
    exact ⟨rfl, rfl⟩
theorem clipf_any (la : Option Addr) (n c : Nat) (w : World) (h : n ≤ c) (hc : c ≤ 9223372036854775807) (hn : la = none → c = 0) : Calls Tryd.prog 72 #[.slice la n c] w fun e w' => e = .returned (.slice la n n) ∧ w' = w := by
  cases la with
  | none =>
    have := hn rfl
    subst this
    obtain rfl : n = 0 := by omega
    go_enter Tryd.func72, Tryd.ntmps72
    go_wp2_with fail
    go_ret
    exact ⟨rfl, rfl⟩
  | some a =>
    go_enter Tryd.func72, Tryd.ntmps72
    go_wp2_with fail
    go_ret
    exact ⟨rfl, rfl⟩

/-- A list to which one may add: one's own, or another's without room. -/
def Open' (w : World) (base : Nat) (e : TypeId) (size : Nat) (v : Value) (n : Nat) (xs : List Value) : Prop :=
  w.ownsRow base e size v n xs ∨ ∃ b, v = .slice (some b) n n ∧ xs.length = n * size ∧ ∀ j u, xs[j]? = some u → w.cell? (b.add j) = some u
theorem wpList_append_open {P : Program} {w : World} {ops : Array Oper} {rest : List Oper} {o : Oper} {a : Act} {Q : Exit → Act → World → Prop} (hgd : o.guard = none) (s x : Operand) (t : TypeId)
    (ho : o.op = .call { callee := .builtin .append, args := #[s, x], argTypes := #[t, t] })
    (base : Nat) (e : TypeId) (i : TypeInfo) (z : Value) (size bytes : Nat) (ht : P.underlying t = some (.slice e)) (hi : P.info? e = some i) (hz : i.zero = some z)
    (hsize : i.size = size) (hby : i.bytes = bytes) (hzs : z.cells.size = size) (hsz : 0 < size)
    (v : Value) (n : Nat) (xs : List Value) (hs : a.eval s = v) (hown : Open' w base e size v n xs)
    (ad : Addr) (m c : Nat) (news : List Value) (hx : a.eval x = .slice (some ad) m c) (hl : news.length = m * size) (hnews : ∀ j u, news[j]? = some u → w.cell? (ad.add j) = some u) (h1 : ∀ u ∈ news, u.oneCell' = true)
    (hm : 0 < m) (h63 : n + m ≤ maxLen) (hbytes : (n + m) * bytes ≤ 140737488355328) (hbase : base ≤ w.heap.size)
    (h : ∀ g cap w' r, w'.ownsRow base e size (.slice (some ⟨g, 0, none⟩) (n + m) cap) (n + m) (xs ++ news) → w.grownBy w' r → (∀ k, r = some k → base ≤ k) → wpList P ops Q rest (a.put o.dst (.slice (some ⟨g, 0, none⟩) (n + m) cap)) w') : wpList P ops Q (o :: rest) a w := by
  rcases hown with hown | ⟨b, rfl, hlo, holds⟩
  · exact wpList_append_lies w hgd s x t ho base e i z size bytes ht hi hz hsize hby hzs hsz v n xs hs hown ad m c news hx hl hnews h1 hm h63 hbytes hbase _ rfl fun g cap w' h2 h3 _ _ => h g cap w' _ h2 h3 (fun k hk => (hown.lt k hk).1)
  · refine wpList_append_grows w hgd s x t ho e i z size bytes ht hi hz hsize hby hzs hsz (some b) n n xs hs (fun h => by cases h) hlo (fun b' e => by cases e; exact holds) ad m c news hx hl hnews h1 (by omega) h63 hbytes fun v' w' h2 h3 => ?_
    obtain ⟨h4, h5⟩ := h2
    rcases h5 with ⟨hv, h6⟩ | ⟨g, cap, cur, hv, hb, hr⟩
    · omega
    · subst hv
      exact h g cap w' none ⟨h4, .inr ⟨g, cap, cur, rfl, Nat.le_trans hbase hb, hr⟩⟩ h3 (fun k e => by cases e)

def nullT : T := .mk 2 0 ⟨#[]⟩ none 0 [] none 0 []
def bareT : T := .mk 5 0 ⟨#[]⟩ none 0 [] none 0 []
structure PadRel (w wr : World) (k n : Int) (s : ByteArray) (lt : List T) (dv v : Value) (i : Nat) : Prop where
  below : Below w.heap.size w wr
  size : w.heap.size + 2 ≤ wr.heap.size
  box : wr.heap[w.heap.size]? = some (.cells #[.int .i64 k, .int .i64 n, .string s, v, dv] 31 (0, 0))
  zero : wr.heap[w.heap.size + 1]? = some zeroObj
  free : Open' wr (w.heap.size + 2) 31 5 v (lt.length + i) ((lt ++ List.replicate i nullT).flatMap T.cells)
theorem Open'.then_ {w w' : World} {base : Nat} {e : TypeId} {size : Nat} {v : Value} {n : Nat} {xs : List Value} (h : Open' w base e size v n xs) (hb : Below w.heap.size w w') : Open' w' base e size v n xs := by
  rcases h with h | ⟨b, h1, h2, h3⟩
  · exact .inl (row_keep h hb)
  · exact .inr ⟨b, h1, h2, fun j u hj => (hb.cell (cell_lt (h3 j u hj))).trans (h3 j u hj)⟩
theorem PadRel.then_ {w wr w' : World} {k n : Int} {s : ByteArray} {lt : List T} {dv v : Value} {i : Nat} (R : PadRel w wr k n s lt dv v i) (hb : Below wr.heap.size wr w') : PadRel w w' k n s lt dv v i :=
  ⟨below_then R.below hb, Nat.le_trans R.size hb.size, row_then R.box hb, row_then R.zero hb, R.free.then_ hb⟩
theorem pad_app {w wr w3 : World} {k n : Int} {s : ByteArray} {lt : List T} {dv v : Value} {i g cap m : Nat} {r : Option Nat} {ys : List Value} (R : PadRel w wr k n s lt dv v i) (h : w3.ownsRow (w.heap.size + 2) 31 5 (.slice (some ⟨g, 0, none⟩) m cap) m ys) (hg : wr.grownBy w3 r) (hr : ∀ k, r = some k → w.heap.size + 2 ≤ k) :
    w3.heap[w.heap.size]? = some (.cells #[.int .i64 k, .int .i64 n, .string s, v, dv] 31 (0, 0)) ∧
    w3.heap[w.heap.size + 1]? = some zeroObj ∧
    Below w.heap.size w (w3.setCell ⟨w.heap.size, 3, none⟩ (.slice (some ⟨g, 0, none⟩) m cap)) ∧ w.heap.size + 2 ≤ (w3.setCell ⟨w.heap.size, 3, none⟩ (.slice (some ⟨g, 0, none⟩) m cap)).heap.size ∧
    (w3.setCell ⟨w.heap.size, 3, none⟩ (.slice (some ⟨g, 0, none⟩) m cap)).heap[w.heap.size]? = some (.cells #[.int .i64 k, .int .i64 n, .string s, .slice (some ⟨g, 0, none⟩) m cap, dv] 31 (0, 0)) ∧
    (w3.setCell ⟨w.heap.size, 3, none⟩ (.slice (some ⟨g, 0, none⟩) m cap)).heap[w.heap.size + 1]? = some zeroObj ∧
    (w3.setCell ⟨w.heap.size, 3, none⟩ (.slice (some ⟨g, 0, none⟩) m cap)).ownsRow (w.heap.size + 2) 31 5 (.slice (some ⟨g, 0, none⟩) m cap) m ys := by
  have hs := R.size
  have hs3 := hg.size
  have hgl := h.lt g rfl
  have b0 : w3.heap[w.heap.size]? = some (.cells #[.int .i64 k, .int .i64 n, .string s, v, dv] 31 (0, 0)) := by
    rw [hg.block _ (by omega) (fun e => by have := hr _ e.symm; omega)]
    exact R.box
  have b1 : w3.heap[w.heap.size + 1]? = some zeroObj := by
    rw [hg.block _ (by omega) (fun e => by have := hr _ e.symm; omega)]
    exact R.zero
  have o1 : Only [w.heap.size] w3 (w3.setCell ⟨w.heap.size, 3, none⟩ (.slice (some ⟨g, 0, none⟩) m cap)) := (Only.refl _ _).setCell (p := ⟨w.heap.size, 3, none⟩) (.inl (by simp)) _
  refine ⟨b0, b1, ?_, by have := o1.size; omega, ?_, ?_, ?_⟩
  · exact (R.below.grown hg (by omega) (fun k e => by have := hr k e; omega)).setCell (p := ⟨w.heap.size, 3, none⟩) (Nat.le_refl _) _
  · have := heap_setCell_same _ _ 3 _ _ (.slice (some ⟨g, 0, none⟩) m cap) b0
    simpa using this
  · rw [o1.block _ (by omega) (by simp)]
    exact b1
  · exact row_on h (fun b hb => by
      simp [Value.ownBlock] at hb
      subst hb
      exact o1.block g (by omega) (by simp; omega))
theorem pad_end {w w3 : World} {k n : Int} {s : ByteArray} {dv v : Value} {g cap m : Nat} {ys : List Value} (v0 v1 v2 v3 v4 : Value) (H : w3.heap[w.heap.size]? = some (.cells #[.int .i64 k, .int .i64 n, .string s, v, dv] 31 (0, 0)) ∧
    w3.heap[w.heap.size + 1]? = some zeroObj ∧
    Below w.heap.size w (w3.setCell ⟨w.heap.size, 3, none⟩ (.slice (some ⟨g, 0, none⟩) m cap)) ∧ w.heap.size + 2 ≤ (w3.setCell ⟨w.heap.size, 3, none⟩ (.slice (some ⟨g, 0, none⟩) m cap)).heap.size ∧
    (w3.setCell ⟨w.heap.size, 3, none⟩ (.slice (some ⟨g, 0, none⟩) m cap)).heap[w.heap.size]? = some (.cells #[.int .i64 k, .int .i64 n, .string s, .slice (some ⟨g, 0, none⟩) m cap, dv] 31 (0, 0)) ∧
    (w3.setCell ⟨w.heap.size, 3, none⟩ (.slice (some ⟨g, 0, none⟩) m cap)).heap[w.heap.size + 1]? = some zeroObj ∧
    (w3.setCell ⟨w.heap.size, 3, none⟩ (.slice (some ⟨g, 0, none⟩) m cap)).ownsRow (w.heap.size + 2) 31 5 (.slice (some ⟨g, 0, none⟩) m cap) m ys) :
    (putCells (w3.setCell ⟨w.heap.size, 3, none⟩ (.slice (some ⟨g, 0, none⟩) m cap)) (w.heap.size + 1) 0 [v0, v1, v2, v3, v4]).ownsRow (w.heap.size + 2) 31 5 (.slice (some ⟨g, 0, none⟩) m cap) m ys ∧
    Below w.heap.size w (putCells (w3.setCell ⟨w.heap.size, 3, none⟩ (.slice (some ⟨g, 0, none⟩) m cap)) (w.heap.size + 1) 0 [v0, v1, v2, v3, v4]) := by
  obtain ⟨-, -, h1, -, -, -, h2⟩ := H
  refine ⟨row_on h2 (fun b hb => ?_), below_put h1 (by omega) _ _⟩
  have := h2.lt b hb
  exact put_other _ _ _ _ _ (by omega)
theorem pad_step {w wr w3 : World} {k n : Int} {s : ByteArray} {lt : List T} {dv v : Value} {i g cap : Nat} {r : Option Nat} (R : PadRel w wr k n s lt dv v i) (h : w3.ownsRow (w.heap.size + 2) 31 5 (.slice (some ⟨g, 0, none⟩) (lt.length + i + 1) cap) (lt.length + i + 1) ((lt ++ List.replicate i nullT).flatMap T.cells ++ nullT.cells)) (hg : wr.grownBy w3 r) (hr : ∀ k, r = some k → w.heap.size + 2 ≤ k) :
    PadRel w (w3.setCell ⟨w.heap.size, 3, none⟩ (.slice (some ⟨g, 0, none⟩) (lt.length + i + 1) cap)) k n s lt dv (.slice (some ⟨g, 0, none⟩) (lt.length + i + 1) cap) (i + 1) := by
  obtain ⟨-, -, h1, h2, h3, h4, h5⟩ := pad_app R h hg hr
  refine ⟨h1, h2, h3, h4, .inl ?_⟩
  rw [List.replicate_succ', ← List.append_assoc, List.flatMap_append (xs := lt ++ List.replicate i nullT)]
  simpa [Nat.add_assoc] using h5
def lenBox (w : World) (b : Nat) : Nat := match w.cell? ⟨b, 3, none⟩ with
  | some (.slice _ n _) => n
  | _ => 0

/-- What padded answers, at a place behind a list's end. -/
def PadTo (k n : Int) (s : ByteArray) (l : List T) (da : Option Addr) (dc : Nat) (d : List (ByteArray × T)) (j : Int) (w : World) (e : Ending) (w' : World) : Prop :=
  Below w.heap.size w w' ∧
  if j < 0 then e = .returned (.tuple #[zeroT.arg, .int .i64 0, .int .i64 41])
  else if 100 < j + 1 - l.length then e = .returned (.tuple #[zeroT.arg, .int .i64 0, .int .i64 42])
  else ∃ g cap, e = .returned (.tuple #[T.arg (.mk k n s (some ⟨g, 0, none⟩) cap (l ++ List.replicate (j.toNat - l.length) nullT ++ [bareT]) da dc d), .int .i64 j, .int .i64 0]) ∧
    w'.ownsRow (w.heap.size + 2) 31 5 (.slice (some ⟨g, 0, none⟩) (l ++ List.replicate (j.toNat - l.length) nullT ++ [bareT]).length cap) (l ++ List.replicate (j.toNat - l.length) nullT ++ [bareT]).length ((l ++ List.replicate (j.toNat - l.length) nullT ++ [bareT]).flatMap T.cells)

set_option maxHeartbeats 2000000 in
theorem padded_any (t : T) (j : Int) (ok : t.ok) (w : World) (hin : t.In w) (kt nt : Int) (st : ByteArray) (lat : Option Addr) (lct : Nat) (lt : List T) (dat : Option Addr) (dct : Nat) (dt : List (ByteArray × T)) (ht : t = .mk kt nt st lat lct lt dat dct dt) (hj : j < 1000000000) (hl : j < 0 ∨ (lt.length : Int) ≤ j) :
    Calls Tryd.prog 73 #[t.arg, .int .i64 j] w (PadTo kt nt st lt dat dct dt j w) := by
  subst ht
  show Calls _ _ #[.agg #[.int .i64 kt, .int .i64 nt, .string st, .slice lat lt.length lct, .slice dat dt.length dct], .int .i64 j] _ _
  obtain ⟨-, -, -, -, hs, hl1, hl2, hd1, hd2, okl, okd⟩ := ok.parts
  by_cases h0 : j < 0
  · go_enter Tryd.func73, Tryd.ntmps73
    go_wp2_with fail
    refine bodyPost_ret (v := .tuple #[zeroT.arg, .int .i64 0, .int .i64 41]) (by simp [results, Tryd.results73, go_sem, zeroT, T.arg, T.cells]) rfl ⟨below2 _ _ _, by rw [if_pos (by omega)]⟩
  · have e1 : wrap64 (j + 1) = j + 1 := (by unfold wrap64; omega)
    have e2 : wrap64 (j + 1 - (lt.length : Int)) = j + 1 - lt.length := (by unfold wrap64; omega)
    by_cases h1 : (100 : Int) < j + 1 - lt.length
    · go_enter Tryd.func73, Tryd.ntmps73
      go_wp2_with fail
      refine bodyPost_ret (v := .tuple #[zeroT.arg, .int .i64 0, .int .i64 42]) (by simp [results, Tryd.results73, go_sem, zeroT, T.arg, T.cells]) rfl ⟨below2 _ _ _, by rw [if_neg (by omega), if_pos (by omega)]⟩
    · obtain ⟨i0, hi0, hz0, hz1, hz2⟩ := info_parts info_value
      have I0 := Lib.hid (And.intro hi0 (And.intro hz0 (And.intro hz1 hz2)))
      clear hi0 hz0 hz1 hz2
      have HC := Lib.hid (fun w => clip_any lat lt.length lct w (by omega) (by have := ok; simp only [T.ok] at this; exact this.2.2.2.1.2) (by have := ok; simp only [T.ok] at this; exact this.2.2.2.2.2.1))
      go_enter Tryd.func73, Tryd.ntmps73
      go_wp2_with (go_at_call 87; refine (HC.out _).mono ?_; rintro e w1 ⟨rfl, rfl⟩)
      go_loopw [22] (fun _ wr => ∃ (i : Nat) (v : Value) (a : Option Addr) (c : Nat), v = .slice a (lt.length + i) c ∧ (lt.length + i : Int) ≤ j ∧ PadRel w wr kt nt st lt (.slice dat dt.length dct) v i) (fun _ wr => j.toNat - lenBox wr w.heap.size)
      case atStart =>
        refine ⟨0, _, lat, lt.length, rfl, by omega, ⟨below2 _ _ _, by simp, ?_, ?_, ?_⟩⟩
        · exact row_then (heap_alloc_new w _) (below1 _ _)
        · have := heap_alloc_new (w.alloc (.cells #[.int .i64 kt, .int .i64 nt, .string st, .slice lat lt.length lt.length, .slice dat dt.length dct] 31)) zeroObj
          rw [World.size_alloc] at this
          exact this
        · have hn : lat = none → lct = 0 := by have := ok; simp only [T.ok] at this; exact this.2.2.2.2.2.1
          rw [List.replicate_zero, List.append_nil, Nat.add_zero]
          cases lat with
          | none =>
            have h0 : lt = [] := List.eq_nil_of_length_eq_zero (by have := hn rfl; omega)
            subst h0
            exact .inl (World.ownsRow_nil _ _ _ _)
          | some a0 =>
            refine .inr ⟨a0, rfl, flat_len lt, fun j u hju => ?_⟩
            by_cases hz : lt = []
            · subst hz; simp at hju
            · obtain ⟨x, hx⟩ : ∃ x, lt[0]? = some x := ⟨_, List.getElem?_eq_getElem (List.length_pos_iff.2 hz)⟩
              obtain ⟨b, o, e, -, -⟩ := hin.parts.1.elem hx
              injection e with e
              subst e
              exact inL_flat (hin.parts.1.then_ (below2 _ _ _)) j u hju
      case round =>
        obtain ⟨i, v, a, c, rfl, hle, R⟩ := hrel
        have HR := Lib.hid R
        have cb := row_cells R.box
        have fb := row_free R.box
        have hwr := R.size
        have cz := row_cells R.zero
        have fz := row_free R.zero
        clear R
        by_cases hlt : (lt.length + i : Int) < j
        · go_wp2_with (at_builtin; go_loud (refine wpList_append_open rfl (.tmp 28) (.tmp 30) 28 rfl (w.heap.size + 2) 31 i0 _ 5 80 Tryd.underlying28 I0.out.1 I0.out.2.1 I0.out.2.2.1 I0.out.2.2.2 rfl (by decide) (.slice a (lt.length + i) c) (lt.length + i) _ rfl (HR.out.then_ (below1 _ _)).free ⟨wr.heap.size, 0, none⟩ 1 1 nullT.cells rfl rfl (World.news_of_block (heap_alloc_new _ _)) (by simp [nullT, T.cells, Value.oneCell']) (by decide) (by unfold maxLen; omega) (by omega) (by simp; omega) ?_; intro g cap w3 r hown hgr hr; have HP := Lib.hid (pad_app (HR.out.then_ (below1 _ _)) hown hgr hr); have HS := Lib.hid (pad_step (HR.out.then_ (below1 _ _)) hown hgr hr); have cb3 := row_cells HP.out.1; have fb3 := row_free HP.out.1; clear hown hgr hr))
          go_roundw
          case rel => exact ⟨i + 1, _, some ⟨g, 0, none⟩, cap, rfl, by omega, HS.out⟩
          case measure =>
            unfold lenBox
            rw [row_cells HS.out.box, cb]
            simp
            omega
        · go_wp2_with (at_builtin; go_loud (refine wpList_append_open rfl (.tmp 34) (.tmp 36) 28 rfl (w.heap.size + 2) 31 i0 _ 5 80 Tryd.underlying28 I0.out.1 I0.out.2.1 I0.out.2.2.1 I0.out.2.2.2 rfl (by decide) (.slice a (lt.length + i) c) (lt.length + i) _ rfl (HR.out.then_ (below1 _ _)).free ⟨wr.heap.size, 0, none⟩ 1 1 bareT.cells rfl rfl (World.news_of_block (heap_alloc_new _ _)) (by simp [bareT, T.cells, Value.oneCell']) (by decide) (by unfold maxLen; omega) (by omega) (by simp; omega) ?_; intro g cap w3 r hown hgr hr; have HP := Lib.hid (pad_app (HR.out.then_ (below1 _ _)) hown hgr hr); have cb3 := row_cells HP.out.1; have fb3 := row_free HP.out.1; have cz3 := row_cells HP.out.2.1; have fz3 := row_free HP.out.2.1; have g0 : g ≠ w.heap.size := (by have := hown.lt g rfl; omega); have g1 : g ≠ w.heap.size + 1 := (by have := hown.lt g rfl; omega); clear hown hgr hr))
          have hi : i = j.toNat - lt.length := by omega
          have hn0 : ¬ j < 0 := by omega
          have hn1 : ¬ (100 : Int) < j + 1 - lt.length := by omega
          refine bodyPost_ret (v := .tuple #[.agg #[.int .i64 kt, .int .i64 nt, .string st, .slice (some ⟨g, 0, none⟩) (lt.length + i + 1) cap, .slice dat dt.length dct], .int .i64 j, .int .i64 0]) (by simp [results, Tryd.results73, go_sem, cz3]) rfl ?_
          obtain ⟨hF, hbF⟩ := pad_end (.int .i64 kt) (.int .i64 nt) (.string st) (.slice (some ⟨g, 0, none⟩) (lt.length + i + 1) cap) (.slice dat dt.length dct) HP.out
          simp only [put5] at hF hbF
          refine ⟨hbF, ?_⟩
          rw [if_neg hn0, if_neg hn1, ← hi]
          refine ⟨g, cap, ?_, ?_⟩
          · simp only [T.arg, T.cells, List.length_append, List.length_replicate, List.length_singleton]
          · simp only [List.length_append, List.length_replicate, List.length_singleton, List.flatMap_append (xs := lt ++ List.replicate i nullT), List.flatMap_singleton]
            exact hF
#print axioms padded_any
end Go.Proofs.YtkklnfihjikilaaDoor
