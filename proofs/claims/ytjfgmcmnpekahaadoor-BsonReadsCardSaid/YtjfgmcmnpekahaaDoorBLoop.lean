/- What the loops of the reader's document and list keep. No statement is proved here. -/
import Derived.Test.YtjfgmcmnpekahaaDoorBStep
import Derived.Test.YtjfgmcmnpekahaaDoorAdd
import Derived.Deep.RegionLaw
import Derived.Deep.AppendLies
import Derived.RegionDies
namespace Go.Proofs.YtjfgmcmnpekahaaDoor
open Go.RowKit
set_option maxRecDepth 100000

/-- A call in a region that draws, which may end by a panic. -/
theorem step_falls {P : Program} {ops : Array Oper} {o : Oper} {a : Act} {w : World} {K : Act → World → Prop} {Q : Exit → Act → World → Prop} {E : Prop} (hgd : o.guard = none) (f : FuncId) (args : Array Value)
    (hrun : (execOp a.eval o).run P w = .ok (.enter f args) w) (h : Calls P f args w fun e w' => (∃ v, e = .returned v ∧ K (a.put o.dst v) w') ∨ ∃ ch, e = .panicked ch ∧ Q (.panic ch) a w') :
    if Region.wanted o (yielded ops a.tmps) = true then Oper.wp P o a w K Q else E := by
  have hw : Region.wanted o (yielded ops a.tmps) = true := by simp [Region.wanted, hgd]
  rw [if_pos hw]
  unfold Oper.wp
  rw [hrun, Oper.upon_enter]
  refine h.mono ?_
  rintro e w' (⟨v, rfl, hk⟩ | ⟨ch, rfl, hk⟩)
  · exact hk
  · exact hk
theorem step_call {P : Program} {ops : Array Oper} {o : Oper} {a : Act} {w : World} {K : Act → World → Prop} {Q : Exit → Act → World → Prop} {E : Prop} (hgd : o.guard = none) (f : FuncId) (args : Array Value)
    (hrun : (execOp a.eval o).run P w = .ok (.enter f args) w) (h : Calls P f args w fun e w' => ∃ v, e = .returned v ∧ K (a.put o.dst v) w') :
    if Region.wanted o (yielded ops a.tmps) = true then Oper.wp P o a w K Q else E := step_falls hgd f args hrun (h.mono fun e w' h => .inl h)
theorem drop_drewO {S : List Nat} {w w' : World} (h : Only S w.drew w') : Only S w w' := ⟨h.os, h.tape, h.output, h.size, h.block⟩
def atOf (w : World) (g : Nat) : Nat := match w.cell? ⟨g, 1, none⟩ with | some (.int _ i) => i.toNat | _ => 0
theorem Cur.atOf {w : World} {g : Nat} {K : Byt} {i r : Nat} {dp : Int} (h : Cur w g K i r dp) : atOf w g = i := by
  unfold Go.Proofs.YtjfgmcmnpekahaaDoor.atOf
  rw [h.cells0.2.1]
  rfl
theorem only_split {S : List Nat} {w w1 : World} (h : Only S w w1) : ∃ wm : World, wm.heap.size = w.heap.size ∧ Only S w wm ∧ Below wm.heap.size wm w1 := by
  have hs := h.size
  have hsz : (w1.heap.extract 0 w.heap.size).size = w.heap.size := by rw [Array.size_extract]; omega
  refine ⟨{ w1 with heap := w1.heap.extract 0 w.heap.size }, hsz, ⟨h.os, h.tape, h.output, by show w.heap.size ≤ (w1.heap.extract 0 w.heap.size).size; omega, fun k hk hn => ?_⟩, ⟨rfl, rfl, rfl, by show (w1.heap.extract 0 w.heap.size).size ≤ _; omega, fun k hk => ?_⟩⟩
  · show (w1.heap.extract 0 w.heap.size)[k]? = _
    rw [Array.getElem?_extract, if_pos (by omega), Nat.zero_add]
    exact h.block k hk hn
  · have hk2 : k < (w1.heap.extract 0 w.heap.size).size := hk
    show w1.heap[k]? = (w1.heap.extract 0 w.heap.size)[k]?
    rw [Array.getElem?_extract, if_pos (by omega), Nat.zero_add]
/-- Where the cursor stands when a field's first byte has been read. -/
def Here (g : Nat) (K : Byt) (last : Nat) (dp z : Int) (w : World) (k : Int) (j : Nat) : Prop :=
  (k = 0 ∧ j = last ∧ z = 0 ∧ Cur w g K last last dp) ∨ ∃ x, K.bs[j]? = some x ∧ x ≠ 0 ∧ kindOf x = k ∧ k ≠ 0 ∧ j < last ∧ Cur w g K (j + 1) last dp
theorem kind_here {g : Nat} {K : Byt} {j last : Nat} {dp z : Int} {w w' : World} {e : Ending} (h : KindTo g K j last dp w e w') (hz : K.bs[last]? = some z) :
    Only [g] w w' ∧ ((∃ k, e = .returned (.int .i64 k) ∧ Here g K last dp z w' k j) ∨ ∃ c q, e = faultE c q ∧ ∀ (list : Bool) (fs : List (ByteArray × V)), tailR list dp K j last z fs = .bad c q) := by
  obtain ⟨c, hc, ho, h | h | h | h⟩ := h
  · obtain ⟨rfl, rfl, rfl, hcur⟩ := h
    rw [hc] at hz
    injection hz with hz
    exact ⟨ho, .inl ⟨0, rfl, .inl ⟨rfl, rfl, hz.symm, hcur⟩⟩⟩
  · obtain ⟨hj, h0, hk, rfl, hcur⟩ := h
    exact ⟨ho, .inl ⟨_, rfl, .inr ⟨c, hc, h0, rfl, hk, hj, hcur⟩⟩⟩
  · obtain ⟨h | h, rfl⟩ := h
    · obtain ⟨rfl, h0⟩ := h
      rw [hc] at hz
      injection hz with hz
      exact ⟨ho, .inr ⟨_, _, rfl, fun list fs => by rw [tail_end, if_neg (by rw [← hz]; exact h0)]⟩⟩
    · obtain ⟨hj, rfl⟩ := h
      exact ⟨ho, .inr ⟨_, _, rfl, fun list fs => tail_end0 hj hc⟩⟩
  · obtain ⟨hj, h0, hk, rfl⟩ := h
    exact ⟨ho, .inr ⟨_, _, rfl, fun list fs => tail_kind hj hc h0 hk⟩⟩
theorem Here.past {w0 w w' : World} {g : Nat} {K : Byt} {i r last : Nat} {dp0 dp z k : Int} {j : Nat} {S : List Nat} (h0 : Cur w0 g K i r dp0) (h : Here g K last dp z w k j) (ho : Only S w w') (hS : ∀ x ∈ S, w0.heap.size ≤ x) : Here g K last dp z w' k j := by
  rcases h with ⟨a, b, c, d⟩ | ⟨x, a, b, c, d, e, f⟩
  · exact .inl ⟨a, b, c, h0.past d ho hS⟩
  · exact .inr ⟨x, a, b, c, d, e, h0.past f ho hS⟩
/-- A list that is being read: its box, what it holds, what the rest comes to. -/
structure ListLoop (n : Nat) (g : Nat) (K : Byt) (i r N : Nat) (dp z : Int) (w : World) (H1 : Nat) (wr : World) (a : Option Addr) (c : Nat) (ts : List T) (fs : List (ByteArray × V)) (j : Nat) : Prop where
  only : Only [g] w wr
  box0 : wr.heap[w.heap.size]? = some (.cells #[.int .i64 0, .int .i64 0, .string ⟨#[]⟩, .slice none 0 0, .slice none 0 0] 25 (0, 0))
  box1 : wr.heap[H1]? = some (.cells #[.int .i64 6, .int .i64 0, .string ⟨#[]⟩, .slice a ts.length c, .slice none 0 0] 25 (0, 0))
  own : T.Own wr (H1 + 1) (.mk 6 0 ⟨#[]⟩ a c ts none 0 [])
  low : g < w.heap.size
  high : w.heap.size < H1
  vals : fs.map (·.2) = ts.map T.val
  many : i + 4 + ts.length ≤ j
  le : j ≤ i + N - 1
  room : N ≤ 65536
  tail : docR (n + 1) true (dp + 1) (K.rest i r) i = wholeR true N (tailR true (dp + 1) K j (i + N - 1) z fs)
theorem ListLoop.len {n g : Nat} {K : Byt} {i r N : Nat} {dp z : Int} {w : World} {H1 : Nat} {wr : World} {a : Option Addr} {c : Nat} {ts : List T} {fs : List (ByteArray × V)} {j : Nat} (h : ListLoop n g K i r N dp z w H1 wr a c ts fs j) : fs.length = ts.length := by
  have := congrArg List.length h.vals
  simpa using this
theorem ListLoop.row {n g : Nat} {K : Byt} {i r N : Nat} {dp z : Int} {w : World} {H1 : Nat} {wr : World} {a : Option Addr} {c : Nat} {ts : List T} {fs : List (ByteArray × V)} {j : Nat} (h : ListLoop n g K i r N dp z w H1 wr a c ts fs j) {wX : World} (ho : Only [g] wr wX) : wX.ownsRow (H1 + 1) 25 5 (.slice a ts.length c) ts.length (ts.flatMap T.cells) :=
  own_rowL (h.own.keep ho (by have := h.low; have := h.high; simp; omega) (Nat.le_refl _))
theorem ListLoop.kept {n g : Nat} {K : Byt} {i r N : Nat} {dp z : Int} {w : World} {H1 : Nat} {wr : World} {a : Option Addr} {c : Nat} {ts : List T} {fs : List (ByteArray × V)} {j : Nat} (h : ListLoop n g K i r N dp z w H1 wr a c ts fs j) {w3 w4 : World} {X : Obj} (ho : Only [g] wr w3) (hg : (w3.alloc X).grownBy w4 (Value.slice a ts.length c).ownBlock) :
    w4.heap[H1]? = some (.cells #[.int .i64 6, .int .i64 0, .string ⟨#[]⟩, .slice a ts.length c, .slice none 0 0] 25 (0, 0)) := by
  have hl := h.low
  have hh := h.high
  have oX : Only [g] wr (w3.alloc X) := ho.trans (Only.of_below (below1 _ _))
  exact keep_row (only_grow hg) (keep_row oX h.box1 (by simp; omega)) (fun hb => by have := ((h.row oX).lt _ (by simpa using hb)).1; omega)
theorem ListLoop.step {n g : Nat} {K : Byt} {i r N : Nat} {dp z : Int} {w : World} {H1 : Nat} {wr : World} {a : Option Addr} {c : Nat} {ts : List T} {fs : List (ByteArray × V)} {j : Nat} (h : ListLoop n g K i r N dp z w H1 wr a c ts fs j)
    {w2 w3 w4 : World} {X : Obj} {y : T} {s : ByteArray} {ga cap j' : Nat} (o1 : Only [g] wr w2) (hy : y.Own w3 w2.heap.size) (o2 : Only [g] w2 w3)
    (hrow : w4.ownsRow (H1 + 1) 25 5 (.slice (some ⟨ga, 0, none⟩) (ts.length + 1) cap) (ts.length + 1) (ts.flatMap T.cells ++ y.cells)) (hg : (w3.alloc X).grownBy w4 (Value.slice a ts.length c).ownBlock) (hat : (Value.slice a ts.length c).ownBlock = some ga ∨ ga = (w3.alloc X).heap.size)
    (hj : j < j') (hj' : j' ≤ i + N - 1) (ht : tailR true (dp + 1) K j (i + N - 1) z fs = tailR true (dp + 1) K j' (i + N - 1) z (fs ++ [(s, y.val)])) :
    ListLoop n g K i r N dp z w H1 (w4.setCell ⟨H1, 3, none⟩ (.slice (some ⟨ga, 0, none⟩) (ts.length + 1) cap)) (some ⟨ga, 0, none⟩) cap (ts ++ [y]) (fs ++ [(s, y.val)]) j' ∧
      ∃ S, Only S w3 (w4.setCell ⟨H1, 3, none⟩ (.slice (some ⟨ga, 0, none⟩) (ts.length + 1) cap)) ∧ ∀ x ∈ S, w.heap.size ≤ x := by
  have hl := h.low
  have hh := h.high
  have hX : Below w3.heap.size w3 (w3.alloc X) := below1 _ _
  have oX : Only [g] wr (w3.alloc X) := (o1.trans o2).trans (Only.of_below hX)
  have hbase : ∀ b ∈ [g], b < H1 + 1 := by simp; omega
  obtain ⟨wm, hsz, om, bm⟩ := only_split oX
  have hm := h.many
  have hle := h.le
  have hroom := h.room
  have hblk : ∀ b, (Value.slice a ts.length c).ownBlock = some b → H1 + 1 ≤ b := fun b hb => ((h.row oX).lt b hb).1
  have hH1 : H1 < wr.heap.size := lt_of_block h.box1
  have hown := own_addL (h.own.keep om hbase (Nat.le_refl _)) (hy.keep (Only.of_below (S := []) hX) (by simp) (Nat.le_refl _)) bm (by rw [hsz]; exact o1.size) (by have := o1.size; omega) (by unfold okLen; omega) (cap_of hrow) hrow hg (hat.imp id (fun e => by omega))
  have o3 : Only (Value.slice a ts.length c).ownBlock.toList (w3.alloc X) w4 := only_grow hg
  have o4 : Only [H1] w4 (w4.setCell ⟨H1, 3, none⟩ (.slice (some ⟨ga, 0, none⟩) (ts.length + 1) cap)) := (Only.refl [H1] w4).setCell (p := ⟨H1, 3, none⟩) (.inl (by simp)) _
  have oA : Only [g] w (w4.setCell ⟨H1, 3, none⟩ (.slice (some ⟨ga, 0, none⟩) (ts.length + 1) cap)) :=
    ((h.only.trans oX).then_ o3 (fun b hb => .inr (by have := hblk b (by simpa using hb); omega))).then_ o4 (fun b hb => .inr (by simp at hb; omega))
  have b0 : (w3.alloc X).heap[w.heap.size]? = some _ := keep_row oX h.box0 (by simp; omega)
  have b1 : (w3.alloc X).heap[H1]? = some _ := keep_row oX h.box1 (by simp; omega)
  have c0 := keep_row o3 b0 (fun hb => by have := hblk _ (by simpa using hb); omega)
  have c1 := keep_row o3 b1 (fun hb => by have := hblk _ (by simpa using hb); omega)
  refine ⟨⟨oA, keep_row o4 c0 (by simp; omega), ?_, hown.keep o4 (by simp) (Nat.le_refl _), hl, hh, ?_, ?_, hj', hroom, ?_⟩, (Value.slice a ts.length c).ownBlock.toList ++ [H1], ?_, ?_⟩
  · have := heap_setCell_same w4 H1 3 _ _ (.slice (some ⟨ga, 0, none⟩) (ts.length + 1) cap) c1
    simpa using this
  · rw [List.map_append, List.map_append, h.vals]; rfl
  · simp; omega
  · rw [h.tail, ht]
  · exact ((Only.of_below hX).trans (subS o3 (fun k hk => List.mem_append_left _ hk))).trans (subS o4 (fun k hk => List.mem_append_right _ hk))
  · intro x hx
    rcases List.mem_append.1 hx with hx | hx
    · have := hblk x (by simpa using hx); omega
    · simp at hx; omega
/-- A document that is being read: its box, the map of the names, what it holds, what the rest comes to. -/
structure DocLoop (n : Nat) (g : Nat) (K : Byt) (i r N : Nat) (dp z : Int) (w : World) (H1 : Nat) (wr : World) (a : Option Addr) (c : Nat) (ts : List (ByteArray × T)) (j : Nat) : Prop where
  only : Only [g] w wr
  box0 : wr.heap[w.heap.size]? = some (.cells #[.int .i64 0, .int .i64 0, .string ⟨#[]⟩, .slice none 0 0, .slice none 0 0] 25 (0, 0))
  box1 : wr.heap[H1]? = some (.cells #[.int .i64 5, .int .i64 0, .string ⟨#[]⟩, .slice none 0 0, .slice a ts.length c] 25 (0, 0))
  map : wr.ownsMap Tryd.prog 9 unitElem (H1 + 1) ts.length (seen ts ts.length)
  own : T.Own wr (H1 + 2) (.mk 5 0 ⟨#[]⟩ none 0 [] a c ts)
  low : g < w.heap.size
  high : w.heap.size < H1
  many : i + 4 + ts.length ≤ j
  le : j ≤ i + N - 1
  room : N ≤ 65536
  tail : docR (n + 1) false (dp + 1) (K.rest i r) i = wholeR false N (tailR false (dp + 1) K j (i + N - 1) z (ts.map fun f => (f.1, f.2.val)))
theorem ListLoop.only6 {n g : Nat} {K : Byt} {i r N : Nat} {dp z : Int} {w : World} {H1 : Nat} {wr : World} {a : Option Addr} {c : Nat} {ts : List T} {fs : List (ByteArray × V)} {j : Nat} (h : ListLoop n g K i r N dp z w H1 wr a c ts fs j) {w' : World} (ho : Only [g] wr w') : ListLoop n g K i r N dp z w H1 w' a c ts fs j :=
  ⟨h.only.trans ho, keep_row ho h.box0 (by have := h.low; simp; omega), keep_row ho h.box1 (by have := h.low; have := h.high; simp; omega), h.own.keep ho (by have := h.low; have := h.high; simp; omega) (Nat.le_refl _), h.low, h.high, h.vals, h.many, h.le, h.room, h.tail⟩
theorem Here.at {g : Nat} {K : Byt} {last : Nat} {dp z : Int} {w : World} {k : Int} {j : Nat} (h : Here g K last dp z w k j) : j ≤ atOf w g := by
  rcases h with ⟨a, b, c, d⟩ | ⟨x, a, b, c, d, e, f⟩
  · rw [d.atOf]; omega
  · rw [f.atOf]; omega
theorem DocLoop.row {n g : Nat} {K : Byt} {i r N : Nat} {dp z : Int} {w : World} {H1 : Nat} {wr : World} {a : Option Addr} {c : Nat} {ts : List (ByteArray × T)} {j : Nat} (h : DocLoop n g K i r N dp z w H1 wr a c ts j) {wX : World} {S : List Nat} (ho : Only S wr wX) (hS : ∀ b ∈ S, b < H1 + 2) : wX.ownsRow (H1 + 2) 51 6 (.slice a ts.length c) ts.length (ts.flatMap fcells) :=
  own_rowD (h.own.keep ho hS (Nat.le_refl _))
theorem DocLoop.kept {n g : Nat} {K : Byt} {i r N : Nat} {dp z : Int} {w : World} {H1 : Nat} {wr : World} {a : Option Addr} {c : Nat} {ts : List (ByteArray × T)} {j : Nat} (h : DocLoop n g K i r N dp z w H1 wr a c ts j) {w3 w4 : World} {X : Obj} (ho : Only [g, H1 + 1] wr w3) (hg : (w3.alloc X).grownBy w4 (Value.slice a ts.length c).ownBlock) :
    w4.heap[H1]? = some (.cells #[.int .i64 5, .int .i64 0, .string ⟨#[]⟩, .slice none 0 0, .slice a ts.length c] 25 (0, 0)) := by
  have hl := h.low
  have hh := h.high
  have oX : Only [g, H1 + 1] wr (w3.alloc X) := ho.trans (Only.of_below (below1 _ _))
  exact keep_row (only_grow hg) (keep_row oX h.box1 (by simp; omega)) (fun hb => by have := ((h.row oX (by simp; omega)).lt _ (by simpa using hb)).1; omega)
theorem DocLoop.only6 {n g : Nat} {K : Byt} {i r N : Nat} {dp z : Int} {w : World} {H1 : Nat} {wr : World} {a : Option Addr} {c : Nat} {ts : List (ByteArray × T)} {j : Nat} (h : DocLoop n g K i r N dp z w H1 wr a c ts j) {w' : World} (ho : Only [g] wr w') : DocLoop n g K i r N dp z w H1 w' a c ts j :=
  ⟨h.only.trans ho, keep_row ho h.box0 (by have := h.low; simp; omega), keep_row ho h.box1 (by have := h.low; have := h.high; simp; omega), map_only h.map ho (by have := h.low; have := h.high; simp; omega), h.own.keep ho (by have := h.low; have := h.high; simp; omega) (Nat.le_refl _), h.low, h.high, h.many, h.le, h.room, h.tail⟩
theorem seen_more (ts : List (ByteArray × T)) (x : ByteArray × T) : seen (ts ++ [x]) (ts ++ [x]).length = (seen ts ts.length).put (.string x.1.data.toList) (.agg []) := by
  have hx : (ts ++ [x])[ts.length]? = some x := by simp
  have h1 := seen_step hx
  rw [List.length_append, List.length_singleton, h1]
  congr 1
  unfold seen
  simp
theorem DocLoop.step {n g : Nat} {K : Byt} {i r N : Nat} {dp z : Int} {w : World} {H1 : Nat} {wr : World} {a : Option Addr} {c : Nat} {ts : List (ByteArray × T)} {j : Nat} (h : DocLoop n g K i r N dp z w H1 wr a c ts j)
    {w1 w2 w3 w4 : World} {X : Obj} {y : T} {s : ByteArray} {ga cap j' : Nat} (o1 : Only [g] wr w1) (og : w1.grownBy w2 (some (H1 + 1))) (hm : w2.ownsMap Tryd.prog 9 unitElem (H1 + 1) (ts.length + 1) ((seen ts ts.length).put (.string s.data.toList) (.agg []))) (hy : y.Own w3 w2.heap.size) (o2 : Only [g] w2 w3) (hs : okLen s.size)
    (hrow : w4.ownsRow (H1 + 2) 51 6 (.slice (some ⟨ga, 0, none⟩) (ts.length + 1) cap) (ts.length + 1) (ts.flatMap fcells ++ fcells (s, y))) (hg : (w3.alloc X).grownBy w4 (Value.slice a ts.length c).ownBlock) (hat : (Value.slice a ts.length c).ownBlock = some ga ∨ ga = (w3.alloc X).heap.size)
    (hj : j < j') (hj' : j' ≤ i + N - 1) (ht : tailR false (dp + 1) K j (i + N - 1) z (ts.map fun f => (f.1, f.2.val)) = tailR false (dp + 1) K j' (i + N - 1) z ((ts.map fun f => (f.1, f.2.val)) ++ [(s, y.val)])) :
    DocLoop n g K i r N dp z w H1 (w4.setCell ⟨H1, 4, none⟩ (.slice (some ⟨ga, 0, none⟩) (ts.length + 1) cap)) (some ⟨ga, 0, none⟩) cap (ts ++ [(s, y)]) j' ∧
      ∃ S, Only S w3 (w4.setCell ⟨H1, 4, none⟩ (.slice (some ⟨ga, 0, none⟩) (ts.length + 1) cap)) ∧ ∀ x ∈ S, w.heap.size ≤ x := by
  have hl := h.low
  have hh := h.high
  have hX : Below w3.heap.size w3 (w3.alloc X) := below1 _ _
  have og2 : Only [H1 + 1] w1 w2 := Only.of_grown og
  have o12 : Only [g, H1 + 1] wr w2 := (subS o1 (by simp)).trans (subS og2 (by simp))
  have oX : Only [g, H1 + 1] wr (w3.alloc X) := (o12.trans (subS o2 (by simp))).trans (Only.of_below hX)
  have hbase : ∀ b ∈ [g, H1 + 1], b < H1 + 2 := by simp; omega
  obtain ⟨wm, hsz, om, bm⟩ := only_split oX
  have hmn := h.many
  have hle := h.le
  have hroom := h.room
  have hblk : ∀ b, (Value.slice a ts.length c).ownBlock = some b → H1 + 2 ≤ b := fun b hb => ((h.row oX hbase).lt b hb).1
  have hH1 : H1 < wr.heap.size := lt_of_block h.box1
  have hH2 : H1 + 1 < wr.heap.size := h.map.lt
  have hown := own_addD (h.own.keep om hbase (Nat.le_refl _)) (hy.keep (Only.of_below (S := []) hX) (by simp) (Nat.le_refl _)) bm (by rw [hsz]; exact o12.size) (by have := o12.size; omega) hs (by unfold okFar; omega) (cap_of hrow) hrow hg (hat.imp id (fun e => by omega))
  have o3 : Only (Value.slice a ts.length c).ownBlock.toList (w3.alloc X) w4 := only_grow hg
  have o4 : Only [H1] w4 (w4.setCell ⟨H1, 4, none⟩ (.slice (some ⟨ga, 0, none⟩) (ts.length + 1) cap)) := (Only.refl [H1] w4).setCell (p := ⟨H1, 4, none⟩) (.inl (by simp)) _
  have oA : Only [g] w (w4.setCell ⟨H1, 4, none⟩ (.slice (some ⟨ga, 0, none⟩) (ts.length + 1) cap)) :=
    ((h.only.then_ oX (fun b hb => by simp at hb; rcases hb with rfl | rfl; exact .inl (by simp); exact .inr (by omega))).then_ o3 (fun b hb => .inr (by have := hblk b (by simpa using hb); omega))).then_ o4 (fun b hb => .inr (by simp at hb; omega))
  have b0 : (w3.alloc X).heap[w.heap.size]? = some _ := keep_row oX h.box0 (by simp; omega)
  have b1 : (w3.alloc X).heap[H1]? = some _ := keep_row oX h.box1 (by simp; omega)
  have c0 := keep_row o3 b0 (fun hb => by have := hblk _ (by simpa using hb); omega)
  have c1 := keep_row o3 b1 (fun hb => by have := hblk _ (by simpa using hb); omega)
  have m3 := map_only (map_only (map_only (map_only hm o2 (by simp; omega)) (Only.of_below (S := []) hX) (by simp)) o3 (fun hb => by have := hblk _ (by simpa using hb); omega)) o4 (by simp)
  refine ⟨⟨oA, keep_row o4 c0 (by simp; omega), ?_, ?_, hown.keep o4 (by simp) (Nat.le_refl _), hl, hh, ?_, hj', hroom, ?_⟩, (Value.slice a ts.length c).ownBlock.toList ++ [H1], ?_, ?_⟩
  · have := heap_setCell_same w4 H1 4 _ _ (.slice (some ⟨ga, 0, none⟩) (ts.length + 1) cap) c1
    simpa using this
  · rw [seen_more, List.length_append, List.length_singleton]; exact m3
  · simp; omega
  · rw [h.tail, ht, List.map_append]; rfl
  · exact ((Only.of_below hX).trans (subS o3 (fun k hk => List.mem_append_left _ hk))).trans (subS o4 (fun k hk => List.mem_append_right _ hk))
  · intro x hx
    rcases List.mem_append.1 hx with hx | hx
    · have := hblk x (by simpa using hx); omega
    · simp at hx; omega
end Go.Proofs.YtjfgmcmnpekahaaDoor
