/- The contracts of below and At: no statement is proved here. -/
import Derived.Test.YtkklnfihjikilaaDoorPathStand
namespace Go.Proofs.YtkklnfihjikilaaDoor
open Go.RowKit
set_option maxRecDepth 100000

set_option maxHeartbeats 1000000 in
theorem below_any (t x : T) (ok : t.ok) (j : Nat) (w : World) (hin : t.In w) (hk : kidT t j = some x) : Calls Tryd.prog 43 #[t.arg, .int .i64 j] w fun e w' => e = .returned x.arg ∧ Below w.heap.size w w' := by
  obtain ⟨kx, nx, sx, lax, lcx, lx, dax, dcx, dx⟩ := t
  show Calls _ _ #[.agg #[.int .i64 kx, .int .i64 nx, .string sx, .slice lax lx.length lcx, .slice dax dx.length dcx], .int .i64 j] _ _
  obtain ⟨-, -, -, -, hs, hl1, hl2, hd1, hd2, okl, okd⟩ := ok.parts
  obtain ⟨ky, ny, sy, lay, lcy, ly, day, dcy, dy⟩ := x
  clear okl okd ok
  rw [kidT] at hk
  by_cases h5 : kx = 5
  · rw [if_pos h5, Option.map_eq_some_iff] at hk
    obtain ⟨⟨fy, y⟩, hy, rfl⟩ := hk
    have hj : j < dx.length := lt_of_get hy
    obtain ⟨b, o, fx, k', n', s', la', lc', l', da', dc', d', rfl, hx, hix, x0, x1, x2, x3, x4, x5⟩ := ((hin.parts.2).then_ (below2 w (.cells #[.int .i64 kx, .int .i64 nx, .string sx, .slice lax lx.length lcx, .slice dax dx.length dcx] 31) (.cells #[.int .i64 0, .int .i64 0, .string ⟨#[]⟩, .slice none 0 0, .slice none 0 0] 31))).six hj
    cases hy.symm.trans hx
    subst h5
    clear hy hx hin hix
    have h0 : ¬ ((j : Int) < 0) := by omega
    go_enter Tryd.func43, Tryd.ntmps43
    go_wp2_with fail
    refine bodyPost_ret (v := .agg #[.int .i64 ky, .int .i64 ny, .string sy, .slice lay ly.length lcy, .slice day dy.length dcy]) (by simp [results, Tryd.results43, go_sem]) rfl ⟨rfl, below2 _ _ _⟩
  · rw [if_neg h5] at hk
    have hj : j < lx.length := lt_of_get hk
    obtain ⟨b, o, k', n', s', la', lc', l', da', dc', d', rfl, hx, hix, x0, x1, x2, x3, x4⟩ := ((hin.parts.1).then_ (below2 w (.cells #[.int .i64 kx, .int .i64 nx, .string sx, .slice lax lx.length lcx, .slice dax dx.length dcx] 31) (.cells #[.int .i64 0, .int .i64 0, .string ⟨#[]⟩, .slice none 0 0, .slice none 0 0] 31))).five hj
    cases hk.symm.trans hx
    have h5b : ((kx : Int) == 5) = false := by simp [h5]
    clear hk hx hin hix h5
    have h0 : ¬ ((j : Int) < 0) := by omega
    go_enter Tryd.func43, Tryd.ntmps43
    go_wp2_with fail
    refine bodyPost_ret (v := .agg #[.int .i64 ky, .int .i64 ny, .string sy, .slice lay ly.length lcy, .slice day dy.length dcy]) (by simp [results, Tryd.results43, go_sem]) rfl ⟨rfl, below2 _ _ _⟩

/-- At yields nothing, or a value in memory of its own. -/
def AtTo (o : Option V) (w : World) (e : Ending) (w' : World) : Prop :=
  (o = none ∧ e = .returned (.tuple #[.agg #[.int .i64 0, .int .i64 0, .string ⟨#[]⟩, .slice none 0 0, .slice none 0 0], .bool false]) ∧ Below w.heap.size w w') ∨
  (∃ t' : T, o = some t'.val ∧ e = .returned (.tuple #[t'.arg, .bool true]) ∧ t'.Own w' w.heap.size ∧ Below w.heap.size w w')
def atO (v : V) (ps : List ByteArray) : Option V := if 10 < ps.length then none else atV v ps
/-- At a round's head: so many parts have been gone; what stands there lies in the box. -/
structure AtRel (w wr : World) (v : V) (ps : List ByteArray) (k : Nat) (t : T) (X : Obj) : Prop where
  below : Below w.heap.size w wr
  box : wr.heap[w.heap.size]? = some (.cells t.cells.toArray 31 (0, 0))
  zero : wr.heap[w.heap.size + 1]? = some X
  in_ : t.In w
  ok : t.ok
  eq : atV v ps = atV t.val (ps.drop k)
theorem at_step {w wr : World} {v : V} {ps : List ByteArray} {k : Nat} {t x : T} {X : Obj} {p : ByteArray} (R : AtRel w wr v ps k t X) (hp : ps[k]? = some p) (hc : childV t.val p = some x.val) : atV v ps = atV x.val (ps.drop (k + 1)) := by
  obtain ⟨h1, rfl⟩ := List.getElem?_eq_some_iff.1 hp
  rw [R.eq, List.drop_eq_getElem_cons h1, atV, hc]
theorem at_none {w wr : World} {v : V} {ps : List ByteArray} {k : Nat} {t : T} {X : Obj} {p : ByteArray} (R : AtRel w wr v ps k t X) (hp : ps[k]? = some p) (hc : childV t.val p = none) : atV v ps = none := by
  obtain ⟨h1, rfl⟩ := List.getElem?_eq_some_iff.1 hp
  rw [R.eq, List.drop_eq_getElem_cons h1, atV, hc]
theorem at_done {w wr : World} {v : V} {ps : List ByteArray} {k : Nat} {t : T} {X : Obj} (R : AtRel w wr v ps k t X) (hk : ps.length ≤ k) : atV v ps = some t.val := by
  rw [R.eq, List.drop_eq_nil_of_le hk, atV]
theorem set5_row {w : World} {g : Nat} {t : TypeId} {a b c d e : Value} (a' b' c' d' e' : Value) (h : w.heap[g]? = some (.cells #[a, b, c, d, e] t (0, 0))) :
    (((((w.setCell ⟨g, 0, none⟩ a').setCell ⟨g, 1, none⟩ b').setCell ⟨g, 2, none⟩ c').setCell ⟨g, 3, none⟩ d').setCell ⟨g, 4, none⟩ e').heap[g]? = some (.cells #[a', b', c', d', e'] t (0, 0)) := by
  have h1 := heap_setCell_same _ g 0 _ t a' h
  have h2 := heap_setCell_same _ g 1 _ t b' h1
  have h3 := heap_setCell_same _ g 2 _ t c' h2
  have h4 := heap_setCell_same _ g 3 _ t d' h3
  have h5 := heap_setCell_same _ g 4 _ t e' h4
  simpa using h5
theorem row_free {w : World} {g : Nat} {cs : Array Value} {t : TypeId} (h : w.heap[g]? = some (.cells cs t (0, 0))) : ∀ o, w.frozen? ⟨g, o, none⟩ = false := fun o => frozen_of_row w g o cs t h
theorem AtRel.then_ {w wr w' : World} {v : V} {ps : List ByteArray} {k : Nat} {t : T} {X : Obj} (R : AtRel w wr v ps k t X) (h : Below wr.heap.size wr w') (hX : ∃ cs t f, X = .cells cs t f) : AtRel w w' v ps k t X := by
  obtain ⟨cs, t', f, rfl⟩ := hX
  exact ⟨below_then R.below h, row_then R.box h, row_then R.zero h, R.in_, R.ok, R.eq⟩
theorem AtRel.next {w wr : World} {v : V} {ps : List ByteArray} {k : Nat} {t x : T} {X : Obj} {p : ByteArray} (R : AtRel w wr v ps k t X) (hp : ps[k]? = some p) (hc : childV t.val p = some x.val) (hi : x.In w) (ho : x.ok) (a b c d e : Value) (hx : x.cells = [a, b, c, d, e]) :
    AtRel w (((((wr.setCell ⟨w.heap.size, 0, none⟩ a).setCell ⟨w.heap.size, 1, none⟩ b).setCell ⟨w.heap.size, 2, none⟩ c).setCell ⟨w.heap.size, 3, none⟩ d).setCell ⟨w.heap.size, 4, none⟩ e) v ps (k + 1) x X := by
  have ho' := only_set5 wr w.heap.size a b c d e
  have hs := lt_of_block R.box
  obtain ⟨k', n', s', la', lc', l', da', dc', d'⟩ := t
  refine ⟨((Only.of_below (S := []) R.below).then_ ho' (by simp)).below, ?_, ?_, hi, ho, at_step R hp hc⟩
  · rw [hx]
    exact set5_row a b c d e R.box
  · have hlt : w.heap.size + 1 < wr.heap.size := by
      rcases Nat.lt_or_ge (w.heap.size + 1) wr.heap.size with h | h
      · exact h
      · have h2 := R.zero; rw [Array.getElem?_eq_none h] at h2; cases h2
    rw [ho'.block _ hlt (by simp)]
    exact R.zero
def zeroObj : Obj := .cells #[.int .i64 0, .int .i64 0, .string ⟨#[]⟩, .slice none 0 0, .slice none 0 0] 31
set_option maxHeartbeats 4000000 in
theorem at_any (t : T) (ok : t.ok) (pa : Option Addr) (pc : Nat) (ps : List ByteArray) (w : World) (hin : t.In w) (hps : Parts w pa pc ps) : Calls Tryd.prog 21 #[t.arg, .slice pa ps.length pc] w (AtTo (atO t.val ps) w) := by
  have HI := Lib.hid hin
  have HO := Lib.hid ok
  have HP := Lib.hid hps
  have HL : ps.length ≤ 9223372036854775807 := hps.len
  have R0 := Lib.hid (show AtRel w ((w.alloc (.cells t.cells.toArray 31)).alloc zeroObj) t.val ps 0 t zeroObj from ⟨below2 _ _ _, heap_alloc2_old _ _ _, heap_alloc2_new _ _ _, hin, ok, rfl⟩)
  clear hin ok hps
  obtain ⟨kx, nx, sx, lax, lcx, lx, dax, dcx, dx⟩ := t
  show Calls _ _ #[.agg #[.int .i64 kx, .int .i64 nx, .string sx, .slice lax lx.length lcx, .slice dax dx.length dcx], .slice pa ps.length pc] _ _
  unfold atO
  go_enter Tryd.func21, Tryd.ntmps21
  go_wp2_with (go_at_call 28; refine (tooMany_any _ _ _ _).mono ?_; rintro e w1 ⟨rfl, rfl⟩)
  · have h10 : (10 : Int) < (ps.length : Int) := by assumption
    refine bodyPost_ret (v := .tuple #[.agg #[.int .i64 0, .int .i64 0, .string ⟨#[]⟩, .slice none 0 0, .slice none 0 0], .bool false]) (by simp [results, Tryd.results21, go_sem]) rfl (.inl ⟨rfl, rfl, below2 _ _ _⟩)
  · go_loopw [7, 8, 14] (fun _ _ s14 wr => ∃ (k : Nat) (x : T), k ≤ ps.length ∧ s14 = .int .i64 k ∧ AtRel w wr (T.mk kx nx sx lax lcx lx dax dcx dx).val ps k x zeroObj) (fun _ _ s14 _ => ps.length - (intOf s14).toNat)
    case atStart => exact ⟨0, _, by omega, rfl, R0.out⟩
    case round =>
      obtain ⟨k, x, hk, rfl, hR⟩ := hrel
      have HR := Lib.hid hR
      obtain ⟨ky, ny, sy, lay, lcy, ly, day, dcy, dy⟩ := x
      have hcells : ∀ o, wr.cell? ⟨w.heap.size, o, none⟩ = (#[.int .i64 ky, .int .i64 ny, .string sy, .slice lay ly.length lcy, .slice day dy.length dcy] : Array Value)[o]? := row_cells hR.box
      clear hR
      by_cases h1 : k < ps.length
      · obtain ⟨p, hp⟩ : ∃ p, ps[k]? = some p := ⟨_, List.getElem?_eq_getElem h1⟩
        obtain ⟨b, o, rfl, hc⟩ := HP.out.in_ k p hp
        have hc1 := (HR.out.below.cell (cell_lt hc)).trans hc
        have h0 : ¬ ((k : Int) < 0) := by omega
        have HPK := Lib.hid hp
        clear hc hp
        rcases stand_child (T.mk ky ny sy lay lcy ly day dcy dy) p with ⟨s1, s2⟩ | ⟨j, y, s1, s2, s3⟩
        · have HS := stand_any (T.mk ky ny sy lay lcy ly day dcy dy) HR.out.ok p wr (HR.out.in_.then_ HR.out.below)
          rw [s1] at HS
          replace HS := Lib.hid HS
          have S2 := Lib.hid s2
          clear s1 s2
          go_wp2_with (go_at_call 42; refine HS.out.mono ?_; rintro e w1 ⟨rfl, b1⟩; have H1 := HR.out.then_ b1 ⟨_, _, _, rfl⟩; have hz1 := row_cells H1.zero; have hf1 := row_free H1.zero)
          refine bodyPost_ret (v := .tuple #[.agg #[.int .i64 0, .int .i64 0, .string ⟨#[]⟩, .slice none 0 0, .slice none 0 0], .bool false]) (by simp [results, Tryd.results21, go_sem, hz1]) rfl (.inl ⟨at_none HR.out HPK.out S2.out, rfl, ?_⟩)
          exact ((Only.of_below (S := []) H1.below).then_ (only_set5 _ (w.heap.size + 1) _ _ _ _ _) (by simp)).below
        · have HS := stand_any (T.mk ky ny sy lay lcy ly day dcy dy) HR.out.ok p wr (HR.out.in_.then_ HR.out.below)
          rw [s1] at HS
          replace HS := Lib.hid HS
          have hiy := Lib.hid (kid_in HR.out.in_ s3)
          have hoy := Lib.hid (kid_ok HR.out.ok s3)
          have HB := Lib.hid (fun w h => below_any (T.mk ky ny sy lay lcy ly day dcy dy) y HR.out.ok j w h s3)
          have S2 := Lib.hid s2
          clear s1 s2 s3
          obtain ⟨kz, nz, sz, laz, lcz, lz, daz, dcz, dz⟩ := y
          have hj : ¬ ((j : Int) < 0) := by omega
          go_wp2_with (first
            | (go_at_call 42; refine HS.out.mono ?_; rintro e w1 ⟨rfl, b1⟩; have H1 := Lib.hid (HR.out.then_ b1 ⟨_, _, _, rfl⟩); have hb1 : ∀ o, w1.cell? ⟨w.heap.size, o, none⟩ = (#[.int .i64 ky, .int .i64 ny, .string sy, .slice lay ly.length lcy, .slice day dy.length dcy] : Array Value)[o]? := row_cells H1.out.box)
            | (go_at_call 43; refine (HB.out _ (H1.out.in_.then_ H1.out.below)).mono ?_; rintro e w2 ⟨rfl, b2⟩; have H2 := Lib.hid (H1.out.then_ b2 ⟨_, _, _, rfl⟩); dsimp only [T.arg, T.cells]; have hb2 : ∀ o, w2.cell? ⟨w.heap.size, o, none⟩ = (#[.int .i64 ky, .int .i64 ny, .string sy, .slice lay ly.length lcy, .slice day dy.length dcy] : Array Value)[o]? := row_cells H2.out.box; have hf2 := row_free H2.out.box))
          go_roundw
          case rel => exact ⟨k + 1, _, by omega, by go_num, H2.out.next HPK.out S2.out hiy.out hoy.out _ _ _ _ _ rfl⟩
          case measure => simp [intOf]; omega
      · have HC := Lib.hid (clone_any (T.mk ky ny sy lay lcy ly day dcy dy) HR.out.ok wr (HR.out.in_.then_ HR.out.below))
        have hlt : w.heap.size + 1 < wr.heap.size := lt_of_block HR.out.zero
        go_wp2_with (go_at_call 32; refine HC.out.mono ?_; rintro e w2 ⟨⟨k3, n3, s3, la3, lc3, l3, da3, dc3, d3⟩, rfl, hv2, ho2, b2⟩; dsimp only [T.arg, T.cells]; have H2 := HR.out.then_ b2 ⟨_, _, _, rfl⟩; have hz2 := row_cells H2.zero; have hf2 := row_free H2.zero)
        refine bodyPost_ret (v := .tuple #[.agg #[.int .i64 k3, .int .i64 n3, .string s3, .slice la3 l3.length lc3, .slice da3 d3.length dc3], .bool true]) (by simp [results, Tryd.results21, go_sem, hz2]) rfl (.inr ⟨.mk k3 n3 s3 la3 lc3 l3 da3 dc3 d3, by rw [at_done HR.out (by omega), hv2], rfl, ?_, ?_⟩)
        · exact ho2.keep (only_set5 w2 (w.heap.size + 1) _ _ _ _ _) (by simp; omega) (by omega)
        · exact ((Only.of_below (S := []) H2.below).then_ (only_set5 w2 (w.heap.size + 1) _ _ _ _ _) (by simp)).below
end Go.Proofs.YtkklnfihjikilaaDoor
