/- The contracts of Clone and of what it calls: no statement is proved here. -/
import Derived.Test.YtcpbdmgkeljkgaaGreatDoorOwn
namespace Go.Proofs.YtcpbdmgkeljkgaaGreatDoor
open Go.RowKit
set_option maxRecDepth 100000

theorem make_any {P : Program} (t e : TypeId) (z : Value) (size bytes : Nat) (ht : P.underlying t = some (.slice e)) (hi : (P.info? e).map (fun i => (i.zero, i.size, i.bytes)) = some (some z, size, bytes)) (n c : Nat) (hnc : n ≤ c) (hb : bytes * c ≤ 281474976710656) (hc : c ≤ 9223372036854775807) :
    ∃ cur : Array Value, cur.size = c * size ∧ ∀ w : World, (Instr.makeSlice t (.int .i64 (n : Int)) (.int .i64 (c : Int))).run P w = .ok (.slice (some ⟨w.heap.size, 0, none⟩) n c) (w.alloc (.cells cur e)) := by
  obtain ⟨i, h1, h2, h3, h4⟩ := info_parts hi
  refine ⟨madeCells z.cells (c * i.size), by rw [size_madeCells, h3], fun w => ?_⟩
  have hb2 : (i.bytes : Int) * (c : Int) ≤ 281474976710656 := by
    rw [h4, ← Int.natCast_mul]; omega
  have := run_make (P := P) w t e i z ht h1 h2 .i64 .i64 n c (by omega) (by omega) hb2 (by omega)
  simpa using this

theorem info_value : (Tryz.prog.info? 28).map (fun i => (i.zero, i.size, i.bytes)) = some (some (.agg #[.int .i64 0, .int .i64 0, .string ⟨#[]⟩, .slice none 0 0, .slice none 0 0]), 5, 80) := by kernel_rfl
theorem info_field : (Tryz.prog.info? 44).map (fun i => (i.zero, i.size, i.bytes)) = some (some (.agg #[.string ⟨#[]⟩, .int .i64 0, .int .i64 0, .string ⟨#[]⟩, .slice none 0 0, .slice none 0 0]), 6, 96) := by kernel_rfl

/-- A call that yields a value like t, in memory of its own. -/
def ClonesTo (t : T) (w : World) (e : Ending) (w' : World) : Prop := ∃ t' : T, e = .returned t'.arg ∧ t'.val = t.val ∧ t'.Own w' w.heap.size ∧ Below w.heap.size w w'
def CloneAt (t : T) : Prop := ∀ w : World, t.In w → Calls Tryz.prog 17 #[t.arg] w (ClonesTo t w)
/-- A list of the call's own. -/
structure OwnL (w : World) (B : Nat) (a : Option Addr) (c : Nat) (ts : List T) : Prop where
  len : ts.length ≤ c ∧ c ≤ 9223372036854775807
  cap : okLen (ts.length * 80)
  nil : a = none → c = 0
  ok : ∀ t ∈ ts, t.ok
  owns : Owns w B (⟨28, 5, .slice a ts.length c, ts.length, ts.flatMap T.cells⟩ :: ts.flatMap T.rows)
  nodup : (blocksOf (⟨28, 5, .slice a ts.length c, ts.length, ts.flatMap T.cells⟩ :: ts.flatMap T.rows)).Nodup
/-- Fields of the call's own. -/
structure OwnD (w : World) (B : Nat) (a : Option Addr) (c : Nat) (ts : List (ByteArray × T)) : Prop where
  len : ts.length ≤ c ∧ c ≤ 9223372036854775807
  cap : okFar (ts.length * 96)
  nil : a = none → c = 0
  ok : ∀ f ∈ ts, okLen f.1.size ∧ f.2.ok
  owns : Owns w B (⟨44, 6, .slice a ts.length c, ts.length, ts.flatMap fcells⟩ :: ts.flatMap fun f => f.2.rows)
  nodup : (blocksOf (⟨44, 6, .slice a ts.length c, ts.length, ts.flatMap fcells⟩ :: ts.flatMap fun f => f.2.rows)).Nodup
def ListTo (l : List T) (w : World) (e : Ending) (w' : World) : Prop := ∃ a c ts, e = .returned (.slice a l.length c) ∧ ts.map T.val = l.map T.val ∧ OwnL w' w.heap.size a c ts ∧ Below w.heap.size w w'
def FieldsTo (l : List (ByteArray × T)) (w : World) (e : Ending) (w' : World) : Prop := ∃ a c ts, e = .returned (.slice a l.length c) ∧ (ts.map fun f => (f.1, f.2.val)) = (l.map fun f => (f.1, f.2.val)) ∧ OwnD w' w.heap.size a c ts ∧ Below w.heap.size w w'

/-- After k rounds. -/
def CloneRel (l : List T) (w wr : World) (k : Nat) : Prop :=
  ∃ ts : List T, ts.length = k ∧ ts.map T.val = (l.map T.val).take k ∧ (∀ t ∈ ts, t.ok) ∧ wr.ownsRow w.heap.size 28 5 (.slice (some ⟨w.heap.size, 0, none⟩) k l.length) k (ts.flatMap T.cells) ∧
    Owns wr (w.heap.size + 1) (ts.flatMap T.rows) ∧ (blocksOf (ts.flatMap T.rows)).Nodup ∧ Below w.heap.size w wr ∧ w.heap.size + 1 ≤ wr.heap.size

theorem clone_step {l : List T} {w wr w1 : World} {k B : Nat} {x t' : T} (hR : CloneRel l w wr k) (h1 : k < l.length) (hx : l[k]? = some x) (hb : Below wr.heap.size wr w1) (hown : t'.Own w1 B) (hB : wr.heap.size ≤ B) (hv : t'.val = x.val) :
    CloneRel l w (putCells w1 w.heap.size (k * 5) t'.cells) (k + 1) := by
  obtain ⟨ts, hts, hval, hoks, hrow, howns, hnd, hbel, hsz⟩ := hR
  have hm : (ts ++ [t']).flatMap T.rows = ts.flatMap T.rows ++ t'.rows := by simp
  refine ⟨ts ++ [t'], by simp [hts], ?_, ?_, ?_, ?_, ?_, ?_, ?_⟩
  · rw [List.map_append, hval, List.take_add_one, List.getElem?_map, hx]
    simp [hv]
  · intro t ht
    rcases List.mem_append.1 ht with ht | ht
    · exact hoks t ht
    · simp at ht; subst ht; exact hown.ok
  · have := own_put (row_keep hrow hb) h1 t'.cells (cells_len _)
    simpa using this
  · rw [hm]
    exact ((howns.below hb).put (by omega) _).append ((hown.owns.base (by omega)).put (by omega) _)
  · rw [hm]
    exact nodup_behind howns hown.owns hB hnd hown.nodup
  · exact below_put (below_then hbel hb) (Nat.le_refl _) _ _
  · exact Nat.le_trans (Nat.le_trans hsz hb.size) (put_size _ _ _ _)
theorem clone_done {l : List T} {w wr : World} (hR : CloneRel l w wr l.length) (hl : l.length * 80 ≤ 140737488351232) : ListTo l w (.returned (.slice (some ⟨w.heap.size, 0, none⟩) l.length l.length)) wr := by
  obtain ⟨ts, hts, hval, hoks, hrow, howns, hnd, hbel, hsz⟩ := hR
  refine ⟨_, _, ts, rfl, by rw [hval, List.take_of_length_le (by simp)], ⟨by omega, by rw [hts]; exact hl, by simp, hoks, ?_, ?_⟩, hbel⟩
  · intro r hr
    rcases List.mem_cons.1 hr with rfl | hr
    · rw [hts]; exact hrow
    · exact howns.base (by omega) r hr
  · simp only [blocksOf, List.filterMap_cons, Value.ownBlock]
    refine List.nodup_cons.2 ⟨fun hc => ?_, hnd⟩
    have := (owns_lt howns _ hc).1
    omega

set_option maxHeartbeats 1000000 in
theorem cloneList_any (la : Option Addr) (ca : Nat) (l : List T) (w : World) (ha : InL w la l) (hl : l.length * 80 ≤ 140737488351232) (hok : ∀ x ∈ l, x.ok) (ih : ∀ x ∈ l, CloneAt x) :
    Calls Tryz.prog 24 #[.slice la l.length ca] w (ListTo l w) := by
  by_cases h0 : l.length = 0
  · have e0 := List.eq_nil_of_length_eq_zero h0
    subst e0
    go_enter Tryz.func24, Tryz.ntmps24
    go_wp2_with fail
    go_ret
    exact ⟨none, 0, [], rfl, rfl, ⟨by simp, by simp [okLen], by simp, by simp, by intro r hr; simp at hr; subst hr; exact World.ownsRow_nil _ _ _ _, by simp [blocksOf, Value.ownBlock]⟩, Below.refl _ _⟩
  · have z0 : ((l.length : Int) == 0) = false := by simp [h0]
    obtain ⟨cur, hcur, hmk⟩ := make_any (P := Tryz.prog) 25 28 _ 5 80 Tryz.underlying25 info_value l.length l.length (Nat.le_refl _) (by omega) (by omega)
    have HC := Lib.hid hcur
    clear hcur h0
    go_enter Tryz.func24, Tryz.ntmps24
    go_wp2_with fail
    go_loopw [4, 5, 14] (fun _ _ i wr => ∃ k : Nat, k ≤ l.length ∧ i = .int .i64 k ∧ CloneRel l w wr k) (fun _ _ i _ => l.length - (intOf i).toNat)
    case atStart => exact ⟨0, by omega, rfl, [], rfl, by simp, by simp, by simpa using own_start cur (Nat.le_refl _) (by unfold maxLen; omega) HC.out, by intro r hr; simp at hr, by simp [blocksOf], below1 _ _, by simp⟩
    case round =>
      obtain ⟨k, hk, rfl, hR⟩ := hrel
      have HR := Lib.hid hR
      obtain ⟨ts, -, -, -, hrow, -, -, hbel, -⟩ := hR
      by_cases h1 : k < l.length
      · obtain ⟨b, o, kx, nx, sx, lax, lcx, lx, dax, dcx, dx, rfl, hx, hix, x0, x1, x2, x3, x4⟩ := (ha.then_ hbel).five h1
        have H := Lib.hid (ih _ (List.mem_of_getElem? hx))
        have HX := Lib.hid hx
        clear ih hmk hx
        go_wp2_with (go_at_call 17; refine (H.out _ (by exact hix.then_ (below1 _ _))).mono ?_; rintro e w1 ⟨⟨k', n', s', la', lc', l', da', dc', d'⟩, rfl, hv', hown', hb1⟩; dsimp only [T.arg, T.cells]
                     have hb2 : Below wr.heap.size wr w1 := below_then (below1 _ _) hb1
                     have HO := Lib.hid hown'
                     have HV := Lib.hid hv'
                     clear hown' hv'
                     have hrow1 := row_keep hrow hb2
                     obtain ⟨v0, v1, v2, v3, v4, c0, c1, c2, c3, c4, f0, f1, f2, f3, f4⟩ := own_room5 hrow1 h1)
        have HS := clone_step HR.out h1 HX.out hb2 HO.out (by simp) HV.out
        rw [T.cells, put5] at HS
        go_roundw
        case rel => exact ⟨k + 1, by omega, by go_num, HS⟩
        case measure => simp [intOf]; omega
      · have hkl : k = l.length := by omega
        subst hkl
        go_wp2_with fail
        go_ret
        exact clone_done HR.out hl

/-- After k rounds. -/
def FieldsRel (l : List (ByteArray × T)) (w wr : World) (k : Nat) : Prop :=
  ∃ ts : List (ByteArray × T), ts.length = k ∧ (ts.map fun f => (f.1, f.2.val)) = (l.map fun f => (f.1, f.2.val)).take k ∧ (∀ t ∈ ts, okLen t.1.size ∧ t.2.ok) ∧ wr.ownsRow w.heap.size 44 6 (.slice (some ⟨w.heap.size, 0, none⟩) k l.length) k (ts.flatMap fcells) ∧
    Owns wr (w.heap.size + 1) (ts.flatMap fun f => f.2.rows) ∧ (blocksOf (ts.flatMap fun f => f.2.rows)).Nodup ∧ Below w.heap.size w wr ∧ w.heap.size + 1 ≤ wr.heap.size
theorem fields_step {l : List (ByteArray × T)} {w wr w1 : World} {k B : Nat} {x : ByteArray × T} {t' : T} (hR : FieldsRel l w wr k) (h1 : k < l.length) (hx : l[k]? = some x) (hxs : okLen x.1.size) (hb : Below wr.heap.size wr w1) (hown : t'.Own w1 B) (hB : wr.heap.size ≤ B) (hv : t'.val = x.2.val) :
    FieldsRel l w (putCells w1 w.heap.size (k * 6) (fcells (x.1, t'))) (k + 1) := by
  obtain ⟨ts, hts, hval, hoks, hrow, howns, hnd, hbel, hsz⟩ := hR
  have hm : (ts ++ [(x.1, t')]).flatMap (fun f => f.2.rows) = ts.flatMap (fun f => f.2.rows) ++ t'.rows := by simp
  refine ⟨ts ++ [(x.1, t')], by simp [hts], ?_, ?_, ?_, ?_, ?_, ?_, ?_⟩
  · rw [List.map_append, hval, List.take_add_one, List.getElem?_map, hx]
    simp [hv]
  · intro t ht
    rcases List.mem_append.1 ht with ht | ht
    · exact hoks t ht
    · simp at ht; subst ht; exact ⟨hxs, hown.ok⟩
  · have := own_put (row_keep hrow hb) h1 (fcells (x.1, t')) (fcells_len _)
    simpa using this
  · rw [hm]
    exact ((howns.below hb).put (by omega) _).append ((hown.owns.base (by omega)).put (by omega) _)
  · rw [hm]
    exact nodup_behind howns hown.owns hB hnd hown.nodup
  · exact below_put (below_then hbel hb) (Nat.le_refl _) _ _
  · exact Nat.le_trans (Nat.le_trans hsz hb.size) (put_size _ _ _ _)
theorem fields_done {l : List (ByteArray × T)} {w wr : World} (hR : FieldsRel l w wr l.length) (hl : l.length * 96 ≤ 140737488355328) : FieldsTo l w (.returned (.slice (some ⟨w.heap.size, 0, none⟩) l.length l.length)) wr := by
  obtain ⟨ts, hts, hval, hoks, hrow, howns, hnd, hbel, hsz⟩ := hR
  refine ⟨_, _, ts, rfl, by rw [hval, List.take_of_length_le (by simp)], ⟨by omega, by rw [hts]; exact hl, by simp, hoks, ?_, ?_⟩, hbel⟩
  · intro r hr
    rcases List.mem_cons.1 hr with rfl | hr
    · rw [hts]; exact hrow
    · exact howns.base (by omega) r hr
  · simp only [blocksOf, List.filterMap_cons, Value.ownBlock]
    refine List.nodup_cons.2 ⟨fun hc => ?_, hnd⟩
    have := (owns_lt howns _ hc).1
    omega

set_option maxHeartbeats 1000000 in
theorem cloneFields_any (la : Option Addr) (ca : Nat) (l : List (ByteArray × T)) (w : World) (ha : InD w la l) (hl : l.length * 96 ≤ 140737488355328) (hok : ∀ x ∈ l, okLen x.1.size ∧ x.2.ok) (ih : ∀ x ∈ l, CloneAt x.2) :
    Calls Tryz.prog 25 #[.slice la l.length ca] w (FieldsTo l w) := by
  by_cases h0 : l.length = 0
  · have e0 := List.eq_nil_of_length_eq_zero h0
    subst e0
    go_enter Tryz.func25, Tryz.ntmps25
    go_wp2_with fail
    go_ret
    exact ⟨none, 0, [], rfl, rfl, ⟨by simp, by simp [okFar], by simp, by simp, by intro r hr; simp at hr; subst hr; exact World.ownsRow_nil _ _ _ _, by simp [blocksOf, Value.ownBlock]⟩, Below.refl _ _⟩
  · have z0 : ((l.length : Int) == 0) = false := by simp [h0]
    obtain ⟨cur, hcur, hmk⟩ := make_any (P := Tryz.prog) 26 44 _ 6 96 Tryz.underlying26 info_field l.length l.length (Nat.le_refl _) (by omega) (by omega)
    have HC := Lib.hid hcur
    clear hcur h0
    go_enter Tryz.func25, Tryz.ntmps25
    go_wp2_with fail
    go_loopw [4, 5, 14] (fun _ _ i wr => ∃ k : Nat, k ≤ l.length ∧ i = .int .i64 k ∧ FieldsRel l w wr k) (fun _ _ i _ => l.length - (intOf i).toNat)
    case atStart => exact ⟨0, by omega, rfl, [], rfl, by simp, by simp, by simpa using own_start cur (Nat.le_refl _) (by unfold maxLen; omega) HC.out, by intro r hr; simp at hr, by simp [blocksOf], below1 _ _, by simp⟩
    case round =>
      obtain ⟨k, hk, rfl, hR⟩ := hrel
      have HR := Lib.hid hR
      obtain ⟨ts, -, -, -, hrow, -, -, hbel, hsz⟩ := hR
      by_cases h1 : k < l.length
      · obtain ⟨b, o, fx, kx, nx, sx, lax, lcx, lx, dax, dcx, dx, rfl, hx, hix, x0, x1, x2, x3, x4, x5⟩ := (ha.then_ hbel).six h1
        have H := Lib.hid (ih _ (List.mem_of_getElem? hx))
        have HF := Lib.hid (hok _ (List.mem_of_getElem? hx)).1
        have HX := Lib.hid hx
        clear ih hmk hx hok
        have hne : w.heap.size ≠ wr.heap.size := by omega
        go_wp2_with fail
        go_region_held3 (fun w' => w'.cell? ⟨wr.heap.size, 0, none⟩ = some (.string fx) ∧ w'.cell? ⟨wr.heap.size, 1, none⟩ = some (.int .i64 kx) ∧ w'.cell? ⟨wr.heap.size, 2, none⟩ = some (.int .i64 nx) ∧ w'.cell? ⟨wr.heap.size, 3, none⟩ = some (.string sx) ∧
            w'.cell? ⟨wr.heap.size, 4, none⟩ = some (.slice lax lx.length lcx) ∧ w'.cell? ⟨wr.heap.size, 5, none⟩ = some (.slice dax dx.length dcx))
          (go_keep)
          (first | (go_at_call 17; refine (H.out _ ?_).mono ?_; (exact (hix.then_ (below1 _ _)).drew'); rintro e w1 ⟨⟨k', n', s', la', lc', l', da', dc', d'⟩, rfl, hv', hown', hb1⟩; dsimp only [T.arg, T.cells]; have hb2 : Below wr.heap.size wr w1 := below_then (below1 _ _).drew hb1; have HO := Lib.hid hown'; have HV := Lib.hid hv'; clear hown' hv'; have hrow1 := row_keep hrow hb2; have hc1 : ∀ o, w1.cell? ⟨wr.heap.size, o, none⟩ = _ := fun o => hb1.cell (p := ⟨wr.heap.size, o, none⟩) (by simp); obtain ⟨v0, v1, v2, v3, v4, v5, c0, c1, c2, c3, c4, c5, f0, f1, f2, f3, f4, f5⟩ := own_room6 hrow1 h1))
        go_wp2_with fail
        have HS := fields_step HR.out h1 HX.out HF.out hb2 HO.out (by simp) HV.out
        rw [fcells, T.cells, put6] at HS
        go_roundw
        case rel => exact ⟨k + 1, by omega, by go_num, HS⟩
        case measure => simp [intOf]; omega
      · have hkl : k = l.length := by omega
        subst hkl
        go_wp2_with fail
        go_ret
        exact fields_done HR.out hl

/-- A value whose list and fields the call made. -/
theorem own_mk {w : World} {B : Nat} {k n : Int} {s : ByteArray} {a d : Option Addr} {c e : Nat} {ts : List T} {fs : List (ByteArray × T)} (hk : okInt k) (hn : okInt n) (hs : okLen s.size) (hl : OwnL w B a c ts) (hd : OwnD w B d e fs)
    (hdis : ∀ x ∈ blocksOf (⟨28, 5, .slice a ts.length c, ts.length, ts.flatMap T.cells⟩ :: ts.flatMap T.rows), ∀ y ∈ blocksOf (⟨44, 6, .slice d fs.length e, fs.length, fs.flatMap fcells⟩ :: fs.flatMap fun f => f.2.rows), x ≠ y) :
    T.Own w B (.mk k n s a c ts d e fs) := by
  have hp : (T.rows (.mk k n s a c ts d e fs)).Perm ((⟨28, 5, .slice a ts.length c, ts.length, ts.flatMap T.cells⟩ :: ts.flatMap T.rows) ++ (⟨44, 6, .slice d fs.length e, fs.length, fs.flatMap fcells⟩ :: fs.flatMap fun f => f.2.rows)) := by
    simp only [T.rows, T.rowsL_eq, T.rowsD_eq, List.cons_append]
    refine List.Perm.cons _ ?_
    rw [← List.cons_append]
    exact List.perm_middle.symm
  refine ⟨?_, ?_, ?_⟩
  · simp only [T.ok, T.okL_iff, T.okD_iff]
    exact ⟨hk, hn, hs, hl.len, hl.cap, hl.nil, hd.len, hd.cap, hd.nil, hl.ok, hd.ok⟩
  · intro r hr
    rcases List.mem_append.1 (hp.mem_iff.1 hr) with h | h
    · exact hl.owns r h
    · exact hd.owns r h
  · refine (hp.filterMap _).nodup_iff.2 ?_
    have := blocksOf_append (⟨28, 5, .slice a ts.length c, ts.length, ts.flatMap T.cells⟩ :: ts.flatMap T.rows) (⟨44, 6, .slice d fs.length e, fs.length, fs.flatMap fcells⟩ :: fs.flatMap fun f => f.2.rows)
    unfold blocksOf at this
    rw [this, List.nodup_append]
    exact ⟨hl.nodup, hd.nodup, hdis⟩

theorem OwnL.keep {w w' : World} {B B' : Nat} {a : Option Addr} {c : Nat} {ts : List T} {S : List Nat} (h : OwnL w B a c ts) (ho : Only S w w') (hS : ∀ b ∈ S, b < B) (hB : B' ≤ B) : OwnL w' B' a c ts :=
  ⟨h.len, h.cap, h.nil, h.ok, (h.owns.only ho (fun b hb hs => by have := (owns_lt h.owns b hb).1; have := hS b hs; omega)).base hB, h.nodup⟩
theorem OwnD.keep {w w' : World} {B B' : Nat} {a : Option Addr} {c : Nat} {ts : List (ByteArray × T)} {S : List Nat} (h : OwnD w B a c ts) (ho : Only S w w') (hS : ∀ b ∈ S, b < B) (hB : B' ≤ B) : OwnD w' B' a c ts :=
  ⟨h.len, h.cap, h.nil, h.ok, (h.owns.only ho (fun b hb hs => by have := (owns_lt h.owns b hb).1; have := hS b hs; omega)).base hB, h.nodup⟩
theorem clone_end {kx nx : Int} {sx : ByteArray} {lax : Option Addr} {lcx : Nat} {lx : List T} {dax : Option Addr} {dcx : Nat} {dx : List (ByteArray × T)} {w w1 w2 w3 : World} {a1 a2 : Option Addr} {c1 c2 : Nat} {ts : List T} {fs : List (ByteArray × T)} {B1 B2 : Nat}
    (ok : (T.mk kx nx sx lax lcx lx dax dcx dx).ok) (hv1 : ts.map T.val = lx.map T.val) (hv2 : (fs.map fun f => (f.1, f.2.val)) = dx.map fun f => (f.1, f.2.val)) (ho1 : OwnL w1 B1 a1 c1 ts) (ho2 : OwnD w2 B2 a2 c2 fs) (hB1 : w.heap.size + 2 ≤ B1) (hB2 : w1.heap.size ≤ B2) (hz1 : w.heap.size + 2 ≤ w1.heap.size)
    (h12 : Only [w.heap.size] w1 w2) (h23 : Only [w.heap.size, w.heap.size + 1] w2 w3) (hb : Below w.heap.size w w3) :
    ClonesTo (.mk kx nx sx lax lcx lx dax dcx dx) w (.returned (.agg #[.int .i64 kx, .int .i64 nx, .string sx, .slice a1 lx.length c1, .slice a2 dx.length c2])) w3 := by
  have e1 : ts.length = lx.length := by simpa using congrArg List.length hv1
  have e2 : fs.length = dx.length := by simpa using congrArg List.length hv2
  obtain ⟨o1, o2, o3, -, -, -, -, -, -, -, -⟩ := ok
  refine ⟨.mk kx nx sx a1 c1 ts a2 c2 fs, by simp only [T.arg, T.cells, e1, e2], by rw [T.val_mk, T.val_mk, hv1, hv2], ?_, hb⟩
  have g1 : OwnL w3 w.heap.size a1 c1 ts := (ho1.keep h12 (by simp; omega) (Nat.le_refl _)).keep h23 (by simp; omega) (by omega)
  have g2 : OwnD w3 w.heap.size a2 c2 fs := ho2.keep h23 (by simp; omega) (by omega)
  refine own_mk o1 o2 o3 g1 g2 (fun x hx y hy e => ?_)
  have := (owns_lt ho1.owns x hx).2
  have := (owns_lt ho2.owns y hy).1
  omega

set_option maxHeartbeats 1000000 in
theorem clone_any (t : T) : t.ok → CloneAt t := by
  induction t using T.ind with
  | h kx nx sx lax lcx lx dax dcx dx ihl ihd =>
  intro ok w hin
  show Calls _ _ #[.agg #[.int .i64 kx, .int .i64 nx, .string sx, .slice lax lx.length lcx, .slice dax dx.length dcx]] _ _
  have HOK := Lib.hid ok
  obtain ⟨-, -, -, -, hs, hl1, hl2, hd1, hd2, okl, okd⟩ := ok.parts
  have HL : ∀ w1, Below w.heap.size w w1 → Calls Tryz.prog 24 #[.slice lax lx.length lcx] w1 (ListTo lx w1) := fun w1 hw =>
    cloneList_any _ _ _ _ (hin.parts.1.then_ hw) (by omega) okl fun x hx => ihl x hx (okl x hx)
  have HD : ∀ w1, Below w.heap.size w w1 → Calls Tryz.prog 25 #[.slice dax dx.length dcx] w1 (FieldsTo dx w1) := fun w1 hw =>
    cloneFields_any _ _ _ _ (hin.parts.2.then_ hw) (by omega) okd fun x hx => ihd x hx (okd x hx).2
  replace HL := Lib.hid HL
  replace HD := Lib.hid HD
  clear ihl ihd okl okd hin ok hl1 hl2 hd1 hd2
  go_enter Tryz.func17, Tryz.ntmps17
  go_wp2_with (first
    | (go_at_call 24; refine (HL.out _ (below2 _ _ _)).mono ?_; rintro e w1 ⟨a1, c1, ts, rfl, hv1, ho1, hb1⟩; have hc1 : ∀ b o, b < w.heap.size + 2 → w1.cell? ⟨b, o, none⟩ = _ := fun b o h => hb1.cell (p := ⟨b, o, none⟩) (by simpa using h); have hf1 : ∀ b o, b < w.heap.size + 2 → w1.frozen? ⟨b, o, none⟩ = _ := fun b o h => hb1.frozen (p := ⟨b, o, none⟩) (by simpa using h); have hz1 : w.heap.size + 2 ≤ w1.heap.size := (by have := hb1.size; simpa using this); have HV1 := Lib.hid hv1; clear hv1)
    | (go_at_call 25; refine (HD.out _ ?_).mono ?_; (exact (below_then (below2 _ _ _) hb1).setCell (by simp) _); rintro e w2 ⟨a2, c2, fs, rfl, hv2, ho2, hb2⟩; have hc2 : ∀ b o, b < w.heap.size + 2 → w2.cell? ⟨b, o, none⟩ = _ := fun b o h => hb2.cell (p := ⟨b, o, none⟩) (by simp [World.setCell]; omega); have hf2 : ∀ b o, b < w.heap.size + 2 → w2.frozen? ⟨b, o, none⟩ = _ := fun b o h => hb2.frozen (p := ⟨b, o, none⟩) (by simp [World.setCell]; omega); have HV2 := Lib.hid hv2; clear hv2))
  refine bodyPost_ret (v := .agg #[.int .i64 kx, .int .i64 nx, .string sx, .slice a1 lx.length c1, .slice a2 dx.length c2]) (by simp [results, Tryz.results17, go_sem, hc2, hc1]) rfl ?_
  have h12 : Only [w.heap.size] w1 w2 := ((Only.refl [w.heap.size] w1).setCell (p := ⟨w.heap.size, 3, none⟩) (.inl (by simp)) _).trans (Only.of_below hb2)
  have h23 : Only [w.heap.size, w.heap.size + 1] w2 _ := ((((((Only.refl [w.heap.size, w.heap.size + 1] w2).setCell (p := ⟨w.heap.size, 4, none⟩) (.inl (by simp)) (.slice a2 dx.length c2)).setCell (p := ⟨w.heap.size + 1, 0, none⟩) (.inl (by simp)) (.int .i64 kx)).setCell (p := ⟨w.heap.size + 1, 1, none⟩) (.inl (by simp)) (.int .i64 nx)).setCell (p := ⟨w.heap.size + 1, 2, none⟩) (.inl (by simp)) (.string sx)).setCell (p := ⟨w.heap.size + 1, 3, none⟩) (.inl (by simp)) (.slice a1 lx.length c1)).setCell (p := ⟨w.heap.size + 1, 4, none⟩) (.inl (by simp)) (.slice a2 dx.length c2)
  have h02 : Only [] w w2 := (Only.of_below (S := []) (below_then (below2 _ _ _) hb1)).then_ h12 (by simp)
  exact clone_end HOK.out HV1.out HV2.out ho1 ho2 (by simp) (by simp [World.setCell]) hz1 h12 h23 (h02.then_ h23 (by simp)).below
end Go.Proofs.YtcpbdmgkeljkgaaGreatDoor
