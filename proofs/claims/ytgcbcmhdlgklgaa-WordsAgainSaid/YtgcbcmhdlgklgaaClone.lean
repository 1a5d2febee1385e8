/- The contracts of Clone and of what it calls: no statement is proved here. -/
import Derived.Test.YtgcbcmhdlgklgaaOwn
namespace Go.Proofs.Ytgcbcmhdlgklgaa
open Go.RowKit
set_option maxRecDepth 100000

theorem make_any {P : Program} (t e : TypeId) (z : Value) (size bytes : Nat) (ht : P.underlying t = some (.slice e)) (hi : (P.info? e).map (fun i => (i.zero, i.size, i.bytes)) = some (some z, size, bytes)) (n c : Nat) (hnc : n ≤ c) (hb : bytes * c ≤ 281474976710656) (hc : c ≤ 9223372036854775807) :
    ∃ cur : Array Value, cur.size = c * size ∧ ∀ w : World, (Instr.makeSlice t (.int .i64 (n : Int)) (.int .i64 (c : Int))).run P w = .ok (.slice (some ⟨w.heap.size, 0, none⟩) n c) (w.alloc (.cells cur e)) := by
  obtain ⟨i, h1, h2, h3, h4⟩ := info_parts hi
  refine ⟨madeCells z.cells (c * i.size), by rw [size_madeCells, h3], fun w => ?_⟩
  have hb2 : (i.bytes : Int) * (c : Int) ≤ 281474976710656 := by
    rw [h4, ← Int.natCast_mul]; omega
  have := run_make (P := P) w t e i z ht h1 h2 .i64 .i64 n c (by omega) (by omega) hb2 (by omega)
  simpa using this

theorem info_value : (Try.prog.info? 30).map (fun i => (i.zero, i.size, i.bytes)) = some (some (.agg #[.int .i64 0, .int .i64 0, .string ⟨#[]⟩, .slice none 0 0, .slice none 0 0]), 5, 80) := by kernel_rfl
theorem info_field : (Try.prog.info? 52).map (fun i => (i.zero, i.size, i.bytes)) = some (some (.agg #[.string ⟨#[]⟩, .int .i64 0, .int .i64 0, .string ⟨#[]⟩, .slice none 0 0, .slice none 0 0]), 6, 96) := by kernel_rfl

/-- A call that yields a value like t, in memory of its own. -/
def ClonesTo (t : T) (w : World) (e : Ending) (w' : World) : Prop := ∃ t' : T, e = .returned t'.arg ∧ t'.val = t.val ∧ t'.Own w' w.heap.size ∧ Below w.heap.size w w'
/-- A list of the call's own. -/
structure OwnL (w : World) (B : Nat) (a : Option Addr) (c : Nat) (ts : List T) : Prop where
  len : ts.length ≤ c ∧ c ≤ 9223372036854775807
  cap : okLen (ts.length * 80)
  nil : a = none → c = 0
  ok : ∀ t ∈ ts, t.ok
  owns : Owns w B (⟨30, 5, .slice a ts.length c, ts.length, ts.flatMap T.cells⟩ :: ts.flatMap T.rows)
  nodup : (blocksOf (⟨30, 5, .slice a ts.length c, ts.length, ts.flatMap T.cells⟩ :: ts.flatMap T.rows)).Nodup
/-- Fields of the call's own. -/
structure OwnD (w : World) (B : Nat) (a : Option Addr) (c : Nat) (ts : List (ByteArray × T)) : Prop where
  len : ts.length ≤ c ∧ c ≤ 9223372036854775807
  cap : okFar (ts.length * 96)
  nil : a = none → c = 0
  ok : ∀ f ∈ ts, okLen f.1.size ∧ f.2.ok
  owns : Owns w B (⟨52, 6, .slice a ts.length c, ts.length, ts.flatMap fcells⟩ :: ts.flatMap fun f => f.2.rows)
  nodup : (blocksOf (⟨52, 6, .slice a ts.length c, ts.length, ts.flatMap fcells⟩ :: ts.flatMap fun f => f.2.rows)).Nodup
def ListTo (l : List T) (w : World) (e : Ending) (w' : World) : Prop := ∃ a c ts, e = .returned (.slice a l.length c) ∧ ts.map T.val = l.map T.val ∧ OwnL w' w.heap.size a c ts ∧ Below w.heap.size w w'
def FieldsTo (l : List (ByteArray × T)) (w : World) (e : Ending) (w' : World) : Prop := ∃ a c ts, e = .returned (.slice a l.length c) ∧ (ts.map fun f => (f.1, f.2.val)) = (l.map fun f => (f.1, f.2.val)) ∧ OwnD w' w.heap.size a c ts ∧ Below w.heap.size w w'

/-- After k rounds. -/
def CloneRel (l : List T) (w wr : World) (k : Nat) : Prop :=
  ∃ ts : List T, ts.length = k ∧ ts.map T.val = (l.map T.val).take k ∧ (∀ t ∈ ts, t.ok) ∧ wr.ownsRow w.heap.size 30 5 (.slice (some ⟨w.heap.size, 0, none⟩) k l.length) k (ts.flatMap T.cells) ∧
    Owns wr (w.heap.size + 1) (ts.flatMap T.rows) ∧ (blocksOf (ts.flatMap T.rows)).Nodup ∧ Below w.heap.size w wr ∧ w.heap.size + 1 ≤ wr.heap.size

theorem clone_step {l : List T} {w wr w1 : World} {k B : Nat} {x t' : T} (hR : CloneRel l w wr k) (h1 : k < l.length) (hx : l[k]? = some x) (hb : Below wr.heap.size wr w1) (hown : t'.Own w1 B) (hB : wr.heap.size ≤ B) (hv : t'.val = x.val) :
    CloneRel l w (putCells w1 w.heap.size (k * 5) t'.cells) (k + 1) := by
  obtain ⟨ts, hts, hval, hoks, hrow, howns, hnd, hbel, hsz⟩ := hR
  have hm : (ts ++ [t']).flatMap T.rows = ts.flatMap T.rows ++ t'.rows := by simp
  refine ⟨ts ++ [t'], by simp [hts], ?_, ?_, ?_, ?_, ?_, ?_, ?_⟩
  · rw [List.map_append, hval, List.take_add_one, List.getElem?_map, hx]
    simp [hv]
  · intro t ht
    rcases List.mem_append.1 ht with ht | ht
    · exact hoks t ht
    · simp at ht; subst ht; exact hown.ok
  · have := own_put (row_keep hrow hb) h1 t'.cells (cells_len _)
    simpa using this
  · rw [hm]
    exact ((howns.below hb).put (by omega) _).append ((hown.owns.base (by omega)).put (by omega) _)
  · rw [hm]
    exact nodup_behind howns hown.owns hB hnd hown.nodup
  · exact below_put (below_then hbel hb) (Nat.le_refl _) _ _
  · exact Nat.le_trans (Nat.le_trans hsz hb.size) (put_size _ _ _ _)
theorem clone_done {l : List T} {w wr : World} (hR : CloneRel l w wr l.length) (hl : l.length * 80 ≤ 140737488351232) : ListTo l w (.returned (.slice (some ⟨w.heap.size, 0, none⟩) l.length l.length)) wr := by
  obtain ⟨ts, hts, hval, hoks, hrow, howns, hnd, hbel, hsz⟩ := hR
  refine ⟨_, _, ts, rfl, by rw [hval, List.take_of_length_le (by simp)], ⟨by omega, by rw [hts]; exact hl, by simp, hoks, ?_, ?_⟩, hbel⟩
  · intro r hr
    rcases List.mem_cons.1 hr with rfl | hr
    · rw [hts]; exact hrow
    · exact howns.base (by omega) r hr
  · simp only [blocksOf, List.filterMap_cons, Value.ownBlock]
    refine List.nodup_cons.2 ⟨fun hc => ?_, hnd⟩
    have := (owns_lt howns _ hc).1
    omega

/-- After k rounds. -/
def FieldsRel (l : List (ByteArray × T)) (w wr : World) (k : Nat) : Prop :=
  ∃ ts : List (ByteArray × T), ts.length = k ∧ (ts.map fun f => (f.1, f.2.val)) = (l.map fun f => (f.1, f.2.val)).take k ∧ (∀ t ∈ ts, okLen t.1.size ∧ t.2.ok) ∧ wr.ownsRow w.heap.size 52 6 (.slice (some ⟨w.heap.size, 0, none⟩) k l.length) k (ts.flatMap fcells) ∧
    Owns wr (w.heap.size + 1) (ts.flatMap fun f => f.2.rows) ∧ (blocksOf (ts.flatMap fun f => f.2.rows)).Nodup ∧ Below w.heap.size w wr ∧ w.heap.size + 1 ≤ wr.heap.size
theorem fields_step {l : List (ByteArray × T)} {w wr w1 : World} {k B : Nat} {x : ByteArray × T} {t' : T} (hR : FieldsRel l w wr k) (h1 : k < l.length) (hx : l[k]? = some x) (hxs : okLen x.1.size) (hb : Below wr.heap.size wr w1) (hown : t'.Own w1 B) (hB : wr.heap.size ≤ B) (hv : t'.val = x.2.val) :
    FieldsRel l w (putCells w1 w.heap.size (k * 6) (fcells (x.1, t'))) (k + 1) := by
  obtain ⟨ts, hts, hval, hoks, hrow, howns, hnd, hbel, hsz⟩ := hR
  have hm : (ts ++ [(x.1, t')]).flatMap (fun f => f.2.rows) = ts.flatMap (fun f => f.2.rows) ++ t'.rows := by simp
  refine ⟨ts ++ [(x.1, t')], by simp [hts], ?_, ?_, ?_, ?_, ?_, ?_, ?_⟩
  · rw [List.map_append, hval, List.take_add_one, List.getElem?_map, hx]
    simp [hv]
  · intro t ht
    rcases List.mem_append.1 ht with ht | ht
    · exact hoks t ht
    · simp at ht; subst ht; exact ⟨hxs, hown.ok⟩
  · have := own_put (row_keep hrow hb) h1 (fcells (x.1, t')) (fcells_len _)
    simpa using this
  · rw [hm]
    exact ((howns.below hb).put (by omega) _).append ((hown.owns.base (by omega)).put (by omega) _)
  · rw [hm]
    exact nodup_behind howns hown.owns hB hnd hown.nodup
  · exact below_put (below_then hbel hb) (Nat.le_refl _) _ _
  · exact Nat.le_trans (Nat.le_trans hsz hb.size) (put_size _ _ _ _)
theorem fields_done {l : List (ByteArray × T)} {w wr : World} (hR : FieldsRel l w wr l.length) (hl : l.length * 96 ≤ 140737488355328) : FieldsTo l w (.returned (.slice (some ⟨w.heap.size, 0, none⟩) l.length l.length)) wr := by
  obtain ⟨ts, hts, hval, hoks, hrow, howns, hnd, hbel, hsz⟩ := hR
  refine ⟨_, _, ts, rfl, by rw [hval, List.take_of_length_le (by simp)], ⟨by omega, by rw [hts]; exact hl, by simp, hoks, ?_, ?_⟩, hbel⟩
  · intro r hr
    rcases List.mem_cons.1 hr with rfl | hr
    · rw [hts]; exact hrow
    · exact howns.base (by omega) r hr
  · simp only [blocksOf, List.filterMap_cons, Value.ownBlock]
    refine List.nodup_cons.2 ⟨fun hc => ?_, hnd⟩
    have := (owns_lt howns _ hc).1
    omega

/-- A value whose list and fields the call made. -/
theorem own_mk {w : World} {B : Nat} {k n : Int} {s : ByteArray} {a d : Option Addr} {c e : Nat} {ts : List T} {fs : List (ByteArray × T)} (hk : okInt k) (hn : okInt n) (hs : okLen s.size) (hl : OwnL w B a c ts) (hd : OwnD w B d e fs)
    (hdis : ∀ x ∈ blocksOf (⟨30, 5, .slice a ts.length c, ts.length, ts.flatMap T.cells⟩ :: ts.flatMap T.rows), ∀ y ∈ blocksOf (⟨52, 6, .slice d fs.length e, fs.length, fs.flatMap fcells⟩ :: fs.flatMap fun f => f.2.rows), x ≠ y) :
    T.Own w B (.mk k n s a c ts d e fs) := by
  have hp : (T.rows (.mk k n s a c ts d e fs)).Perm ((⟨30, 5, .slice a ts.length c, ts.length, ts.flatMap T.cells⟩ :: ts.flatMap T.rows) ++ (⟨52, 6, .slice d fs.length e, fs.length, fs.flatMap fcells⟩ :: fs.flatMap fun f => f.2.rows)) := by
    simp only [T.rows, T.rowsL_eq, T.rowsD_eq, List.cons_append]
    refine List.Perm.cons _ ?_
    rw [← List.cons_append]
    exact List.perm_middle.symm
  refine ⟨?_, ?_, ?_⟩
  · simp only [T.ok, T.okL_iff, T.okD_iff]
    exact ⟨hk, hn, hs, hl.len, hl.cap, hl.nil, hd.len, hd.cap, hd.nil, hl.ok, hd.ok⟩
  · intro r hr
    rcases List.mem_append.1 (hp.mem_iff.1 hr) with h | h
    · exact hl.owns r h
    · exact hd.owns r h
  · refine (hp.filterMap _).nodup_iff.2 ?_
    have := blocksOf_append (⟨30, 5, .slice a ts.length c, ts.length, ts.flatMap T.cells⟩ :: ts.flatMap T.rows) (⟨52, 6, .slice d fs.length e, fs.length, fs.flatMap fcells⟩ :: fs.flatMap fun f => f.2.rows)
    unfold blocksOf at this
    rw [this, List.nodup_append]
    exact ⟨hl.nodup, hd.nodup, hdis⟩

theorem OwnL.keep {w w' : World} {B B' : Nat} {a : Option Addr} {c : Nat} {ts : List T} {S : List Nat} (h : OwnL w B a c ts) (ho : Only S w w') (hS : ∀ b ∈ S, b < B) (hB : B' ≤ B) : OwnL w' B' a c ts :=
  ⟨h.len, h.cap, h.nil, h.ok, (h.owns.only ho (fun b hb hs => by have := (owns_lt h.owns b hb).1; have := hS b hs; omega)).base hB, h.nodup⟩
theorem OwnD.keep {w w' : World} {B B' : Nat} {a : Option Addr} {c : Nat} {ts : List (ByteArray × T)} {S : List Nat} (h : OwnD w B a c ts) (ho : Only S w w') (hS : ∀ b ∈ S, b < B) (hB : B' ≤ B) : OwnD w' B' a c ts :=
  ⟨h.len, h.cap, h.nil, h.ok, (h.owns.only ho (fun b hb hs => by have := (owns_lt h.owns b hb).1; have := hS b hs; omega)).base hB, h.nodup⟩
theorem clone_end {kx nx : Int} {sx : ByteArray} {lax : Option Addr} {lcx : Nat} {lx : List T} {dax : Option Addr} {dcx : Nat} {dx : List (ByteArray × T)} {w w1 w2 w3 : World} {a1 a2 : Option Addr} {c1 c2 : Nat} {ts : List T} {fs : List (ByteArray × T)} {B1 B2 : Nat}
    (ok : (T.mk kx nx sx lax lcx lx dax dcx dx).ok) (hv1 : ts.map T.val = lx.map T.val) (hv2 : (fs.map fun f => (f.1, f.2.val)) = dx.map fun f => (f.1, f.2.val)) (ho1 : OwnL w1 B1 a1 c1 ts) (ho2 : OwnD w2 B2 a2 c2 fs) (hB1 : w.heap.size + 2 ≤ B1) (hB2 : w1.heap.size ≤ B2) (hz1 : w.heap.size + 2 ≤ w1.heap.size)
    (h12 : Only [w.heap.size] w1 w2) (h23 : Only [w.heap.size, w.heap.size + 1] w2 w3) (hb : Below w.heap.size w w3) :
    ClonesTo (.mk kx nx sx lax lcx lx dax dcx dx) w (.returned (.agg #[.int .i64 kx, .int .i64 nx, .string sx, .slice a1 lx.length c1, .slice a2 dx.length c2])) w3 := by
  have e1 : ts.length = lx.length := by simpa using congrArg List.length hv1
  have e2 : fs.length = dx.length := by simpa using congrArg List.length hv2
  obtain ⟨o1, o2, o3, -, -, -, -, -, -, -, -⟩ := ok
  refine ⟨.mk kx nx sx a1 c1 ts a2 c2 fs, by simp only [T.arg, T.cells, e1, e2], by rw [T.val_mk, T.val_mk, hv1, hv2], ?_, hb⟩
  have g1 : OwnL w3 w.heap.size a1 c1 ts := (ho1.keep h12 (by simp; omega) (Nat.le_refl _)).keep h23 (by simp; omega) (by omega)
  have g2 : OwnD w3 w.heap.size a2 c2 fs := ho2.keep h23 (by simp; omega) (by omega)
  refine own_mk o1 o2 o3 g1 g2 (fun x hx y hy e => ?_)
  have := (owns_lt ho1.owns x hx).2
  have := (owns_lt ho2.owns y hy).1
  omega

end Go.Proofs.Ytgcbcmhdlgklgaa
