/- Package block's Disk.Write: its contract. No statement is proved here. -/
import Derived.Test.YtophhnolnlbecaaDoorDBlk3
import Derived.Test.YtophhnolnlbecaaDoorQ3
import Derived.StillTailTactics
import Derived.Deep.AppendLies
import Derived.Deep.RegionLaw
namespace Go.Proofs.YtophhnolnlbecaaDoor
open Go.RowKit
open Go.Maps (Keyed IsMap Tidy)
set_option maxRecDepth 100000

/-- Where a write's closure finds what it captured. -/
structure Caps (w : World) (g xb db ab h : Nat) (v : Value) (k : Nat) : Prop where
  x : w.heap[xb]? = some (.cells #[v] 22)
  d : w.heap[db]? = some (.cells #[.pointer (some ⟨h, 0, none⟩)] 41)
  h : w.heap[h]? = some (.cells #[.pointer (some ⟨g, 0, none⟩)] 86)
  a : w.heap[ab]? = some (.cells #[.int .i64 (k : Int)] 3)
theorem TB_no {t : TypeId} (h1 : t ≠ 77) (h2 : t ≠ 100) (cur : Array Value) (fr : Nat × Nat) : ¬ TB (.cells cur t fr) := by
  rintro (h | h)
  · exact h1 h
  · exact h2 h
theorem Caps.turns {w w' : World} {B g xb db ab h : Nat} {v : Value} {k : Nat} (c : Caps w g xb db ab h v k) (ht : Turns TB B w w') : Caps w' g xb db ab h v k :=
  ⟨ht.block _ _ c.x (TB_no (by decide) (by decide) _ _), ht.block _ _ c.d (TB_no (by decide) (by decide) _ _), ht.block _ _ c.h (TB_no (by decide) (by decide) _ _), ht.block _ _ c.a (TB_no (by decide) (by decide) _ _)⟩
theorem Caps.cells {w : World} {g xb db ab h : Nat} {v : Value} {k : Nat} (c : Caps w g xb db ab h v k) : w.cell? ⟨xb, 0, none⟩ = some v ∧ w.cell? ⟨db, 0, none⟩ = some (.pointer (some ⟨h, 0, none⟩)) ∧ w.cell? ⟨h, 0, none⟩ = some (.pointer (some ⟨g, 0, none⟩)) ∧ w.cell? ⟨ab, 0, none⟩ = some (.int .i64 (k : Int)) :=
  ⟨row_cells c.x 0, row_cells c.d 0, row_cells c.h 0, row_cells c.a 0⟩
/-- A row put at a place of the map of what is read: the disk in between. -/
def Dk.half (d : Dk) (k : Nat) (r : List Int) : Dk := { d with now := upd d.now k r }
theorem BoxOf.half {w w' : World} {B : Base} {g N : Nat} {d : Dk} {s : Spot} (h : BoxOf w B g d N s) (k : Nat) {v : Value} {r : List Int} (hr : RowAt w B v r) {b n c : Nat} (hv : v = .slice (some ⟨b, 0, none⟩) n c)
    (hown : w'.ownsMap Tryd.prog 3 RowR s.nb (s.nN + 1) (s.DN.put (.int .i64 (k : Int)) (encS b n c))) (hg : w.grownBy w' (some s.nb)) :
    BoxOf w' B g (d.half k r) (N + 1) { s with nN := s.nN + 1, DN := s.DN.put (.int .i64 (k : Int)) (encS b n c) } ∧ Turns TB B.lo w w' := by
  have keep : ∀ v r, RowAt w B v r → RowAt w' B v r := fun v r hx => hx.keep fun b hb => hg.block b (hx.block b hb).choose_spec.2.2 (fun e => (h.rowNe hx b hb).2.2.1 (by injection e))
  refine ⟨?_, (Turns.refl TB B.lo w).grown hg (fun k e => ?_) (Nat.le_trans h.gB (Nat.le_of_lt h.lt))⟩
  · exact {
      box := (hg.block g h.lt (fun e => h.gnb (by injection e))).trans h.box
      gB := h.gB
      sB := h.sB
      nB := h.nB
      ne := h.ne
      mapS := owns_keep h.mapS (hg.block _ h.sbLt (fun e => h.ne (by injection e)))
      mapN := hown
      isS := h.isS.keep keep
      isN := (h.isN.put k hr hv).keep keep
      wlen := h.wlen
      wait := row_keepW h.wait fun b hb => hg.block b (h.wvObj b hb).choose_spec.2.2 (fun e => (h.wvNe b hb).2.2 (by injection e))
      rows := fun i p v h1 h2 => keep _ _ (h.rows i p v h1 h2)
      numS := Nat.le_succ_of_le h.numS
      numN := Nat.succ_le_succ h.numN
      many := h.many
      acts := h.acts }
  · injection e with e
    subst e
    obtain ⟨es, c, e⟩ := h.nbObj
    exact ⟨h.nB, _, e, trivial⟩
theorem find_row {w : World} {B : Base} {v : Value} {r : List Int} (hr : RowAt w B v r) : ∃ b n c, v = .slice (some ⟨b, 0, none⟩) n c := by
  obtain ⟨b, c, e, -⟩ := hr.form
  exact ⟨b, r.length, c, e⟩
theorem info_write : (Tryd.prog.info? 100).map (fun i => (i.zero, i.size, i.bytes)) = some (some (.agg #[.int .i64 0, .slice none 0 0]), 2, 32) := by kernel_rfl
theorem run_info_parts {e : TypeId} {z : Value} {n b : Nat} (h : (Tryd.prog.info? e).map (fun i => (i.zero, i.size, i.bytes)) = some (some z, n, b)) : ∃ i, Tryd.prog.info? e = some i ∧ i.zero = some z ∧ i.size = n ∧ i.bytes = b := info_parts h
/-- Behind the append: what the rest of the statement reads and writes. -/
theorem BoxOf.after {w w' : World} {B : Base} {g N : Nat} {d : Dk} {s : Spot} (h : BoxOf w B g d N s) {X : Obj} (hg : (w.alloc X).drew.grownBy w' s.wv.ownBlock) : Turns TB B.lo w w' ∧ w'.heap[g]? = some (.cells (boxC d s.sb s.nb s.wv) 77) := by
  have h1 : Turns TB B.lo w (w.alloc X) := Turns.of_below (Nat.le_trans h.gB (Nat.le_of_lt h.lt)) (below1 w X)
  refine ⟨h1.grown ⟨hg.os, hg.tape, hg.output, hg.size, hg.block⟩ (fun k e => ?_) (Nat.le_trans h.gB (Nat.le_of_lt (Nat.lt_of_lt_of_le h.lt (below1 w X).size))), ?_⟩
  · obtain ⟨cur, e1, e2, e3⟩ := h.wvObj k e
    exact ⟨e2, _, ((below1 w X).block k e3).trans e1, TB_write _ _⟩
  · refine (hg.block g (Nat.lt_of_lt_of_le h.lt (below1 w X).size) (fun e => (h.wvNe g e.symm).1 rfl)).trans ?_
    exact ((below1 w X).block g h.lt).trans h.box
/-- A write put behind those that wait. -/
def Dk.queue (d : Dk) (k : Nat) (r : List Int) : Dk := { d with wait := d.wait ++ [(k, r)] }
theorem BoxOf.pushed {w w' : World} {B : Base} {g N N' : Nat} {d : Dk} {s : Spot} (h : BoxOf w B g d N s) {X : Obj} (hg : (w.alloc X).drew.grownBy w' s.wv.ownBlock) {ga cap k : Nat} {v : Value} {r : List Int}
    (own : w'.ownsRow B.lo 100 2 (.slice (some ⟨ga, 0, none⟩) (d.wait.length + 1) cap) (d.wait.length + 1) (waitC d.wait s.vs ++ [.int .i64 (k : Int), v])) (hr : RowAt w B v r) (hS : s.nS + d.wait.length + 1 ≤ N') (hN : s.nN ≤ N') :
    BoxOf (w'.setCell ⟨g, 3, none⟩ (.slice (some ⟨ga, 0, none⟩) (d.wait.length + 1) cap)) B g (d.queue k r) N' { s with wv := .slice (some ⟨ga, 0, none⟩) (d.wait.length + 1) cap, vs := s.vs ++ [v] } ∧ Turns TB B.lo w (w'.setCell ⟨g, 3, none⟩ (.slice (some ⟨ga, 0, none⟩) (d.wait.length + 1) cap)) := by
  obtain ⟨ht, hgb⟩ := h.after hg
  have keepB : ∀ x, x < w.heap.size → x ≠ g → some x ≠ s.wv.ownBlock → (w'.setCell ⟨g, 3, none⟩ (.slice (some ⟨ga, 0, none⟩) (d.wait.length + 1) cap)).heap[x]? = w.heap[x]? := fun x hx hne hnw =>
    (set_off _ _ hne).trans ((hg.block x (Nat.lt_of_lt_of_le hx (below1 w X).size) hnw).trans ((below1 w X).block x hx))
  have keep : ∀ v r, RowAt w B v r → RowAt (w'.setCell ⟨g, 3, none⟩ (.slice (some ⟨ga, 0, none⟩) (d.wait.length + 1) cap)) B v r := fun v r hx => hx.keep fun b hb =>
    keepB b (hx.block b hb).choose_spec.2.2 (h.rowNe hx b hb).1 (fun e => (h.rowNe hx b hb).2.2.2 b e.symm rfl)
  have hga : ga ≠ g := by
    rintro rfl
    rcases own.2 with ⟨e, -⟩ | ⟨g', cap', cur, hv, hB, hgg, -⟩
    · cases e
    · injection hv with e1
      injection e1 with e1
      injection e1 with e1
      subst e1
      rw [hgb] at hgg
      injection hgg with e
      injection e with _ e
      exact box_not_write e
  refine ⟨?_, ht.setCell (p := ⟨g, 3, none⟩) hgb (TB_box _ _) h.gB _⟩
  exact {
    box := set_heap (i := 3) hgb _
    gB := h.gB
    sB := h.sB
    nB := h.nB
    ne := h.ne
    mapS := owns_keep h.mapS (keepB _ h.sbLt h.gsb.symm (fun e => (h.wvNe _ e.symm).2.1 rfl))
    mapN := owns_keep h.mapN (keepB _ h.nbLt h.gnb.symm (fun e => (h.wvNe _ e.symm).2.2 rfl))
    isS := h.isS.keep keep
    isN := h.isN.keep keep
    wlen := by show (s.vs ++ [v]).length = (d.wait ++ [(k, r)]).length; rw [List.length_append, List.length_append, h.wlen]; rfl
    wait := by
      show World.ownsRow _ B.lo 100 2 (.slice (some ⟨ga, 0, none⟩) (d.wait.length + 1) cap) (d.wait ++ [(k, r)]).length (waitC (d.wait ++ [(k, r)]) (s.vs ++ [v]))
      rw [waitC_snoc _ _ h.wlen, List.length_append]
      exact row_keepW own fun b hb => by
        injection hb with hb
        subst hb
        exact set_off _ _ hga
    rows := fun i p u h1 h2 => by
      replace h1 : (d.wait ++ [(k, r)])[i]? = some p := h1
      replace h2 : (s.vs ++ [v])[i]? = some u := h2
      by_cases hi : i < d.wait.length
      · rw [List.getElem?_append_left hi] at h1
        rw [List.getElem?_append_left (by rw [h.wlen]; exact hi)] at h2
        exact keep _ _ (h.rows i p u h1 h2)
      · have hi2 := lt_of_get h1
        rw [List.length_append, List.length_singleton] at hi2
        have e : i = d.wait.length := by omega
        rw [e, List.getElem?_append_right (Nat.le_refl _), Nat.sub_self] at h1
        rw [e, ← h.wlen, List.getElem?_append_right (Nat.le_refl _), Nat.sub_self] at h2
        injection h1 with h1
        injection h2 with h2
        subst h1 h2
        exact keep _ _ hr
    numS := by
      show s.nS + (d.wait ++ [(k, r)]).length ≤ N'
      rw [List.length_append, List.length_singleton]; omega
    numN := hN
    many := h.many
    acts := h.acts }
attribute [local go_sem ↓] app_sem
set_option maxHeartbeats 4000000 in
theorem write1_any (xb db ab h g : Nat) (k : Nat) (v : Value) (r : List Int) (w : World) (B : Base) (N : Nat) (d : Dk) (hc : Caps w g xb db ab h v k) (hr : RowAt w B v r) (hl : r.length = 512) (hk : k < d.many) (hN : N ≤ 1099511627776) (hb : BoxAt w B g d N) :
    Calls Tryd.prog 72 #[.pointer (some ⟨xb, 0, none⟩), .pointer (some ⟨db, 0, none⟩), .pointer (some ⟨ab, 0, none⟩)] w fun e w' => e = .returned (.tuple #[]) ∧ BoxAt w' B g (d.put k r) (N + 1) ∧ Turns TB B.lo w w' := by
  obtain ⟨hok, s, hb⟩ := hb
  obtain ⟨b, n, c, rfl⟩ := find_row hr
  obtain ⟨q0, q1, q2, q3, q4, q5, q6, q7⟩ := boxC_get d s.sb s.nb s.wv
  have c2 := (hb.cells 2).trans q2
  have hm := hb.many
  obtain ⟨cx, cd, ch, ca⟩ := hc.cells
  have HB := Lib.hid (And.intro hc (And.intro hr (And.intro hb hok)))
  have HK := Lib.hid (key_at (k := (k : Int)) (by unfold okInt; omega))
  have HM := Lib.hid (show s.nN < maxLen by have := hb.numN; unfold maxLen; omega)
  clear q0 q1 q2 q3 q4 q5 q6 q7 hc hr hb
  go_enter Tryd.func72, Tryd.ntmps72
  go_wp2_with fail
  go_still_tail 9, (by kernel_rfl)
  change wpList _ _ _ _ _ w.drew
  go_wp2_with (refine wpList_mapUpdate_own _ rfl _ _ _ 74 rfl 3 22 keyK Tryd.underlying74 RowR s.nb s.nN s.DN rfl HB.out.2.2.1.mapN.drew HM.out _ _ (.int .i64 (k : Int)) rfl rfl HK.out (encS b n c) [] (rowR_mk b n c) ?_; intro w1 hown hgr; have H1 := Lib.hid (HB.out.2.2.1.half k HB.out.2.1 rfl hown ⟨hgr.os, hgr.tape, hgr.output, hgr.size, hgr.block⟩); clear hown hgr)
  simp only [Act.put]
  obtain ⟨i0, hi0, hz0, hz1, hz2⟩ := info_parts info_write
  have I0 := Lib.hid (And.intro hi0 (And.intro hz0 (And.intro hz1 hz2)))
  clear hi0 hz0 hz1 hz2 c2 cx cd ch ca
  have C1 := Lib.hid (HB.out.1.turns H1.out.2)
  obtain ⟨cx, cd, ch, ca⟩ := C1.out.cells
  have c3 := H1.out.1.cells 3
  replace c3 : w1.cell? ⟨g, 3, none⟩ = some s.wv := c3
  obtain ⟨X0, hX0⟩ : ∃ X0 : Obj, X0 = .cells #[.int .i64 (k : Int), .slice (some ⟨b, 0, none⟩) n c] 100 := ⟨_, rfl⟩
  have a0 := (C1.out.turns (Turns.of_below (T := TB) (Nat.le_refl _) (below1 w1 X0))).cells
  obtain ⟨ax, ad, ah, aa⟩ := a0
  have a3 : (w1.alloc X0).cell? ⟨g, 3, none⟩ = some s.wv := (H1.out.1.then_ (below1 w1 X0)).cells 3
  rw [hX0] at ax ad ah aa a3
  clear hX0
  have HN : d.wait.length + 1 ≤ 1099511627777 := by have : s.nS + d.wait.length ≤ N := HB.out.2.2.1.numS; omega
  obtain ⟨v', w2, hrun, own2, grow2, -⟩ := run_append_own (P := Tryd.prog) (w := (w1.alloc (.cells #[.int .i64 (k : Int), .slice (some ⟨b, 0, none⟩) n c] 100)).drew) B.lo 75 75 100 i0 _ 2 32 Tryd.underlying75 I0.out.1 I0.out.2.1 I0.out.2.2.1 I0.out.2.2.2 rfl (by decide) s.wv d.wait.length (waitC d.wait s.vs) (World.ownsRow.alloc H1.out.1.wait _) ⟨w1.heap.size, 0, none⟩ 1 1 [.int .i64 (k : Int), .slice (some ⟨b, 0, none⟩) n c] rfl (fun j u hu => news_at w1 _ _ _ rfl j u hu) (by intro u hu; simp at hu; rcases hu with rfl | rfl <;> rfl) (by unfold maxLen; omega) (by omega) (Nat.le_trans H1.out.1.gB (Nat.le_of_lt (Nat.lt_of_lt_of_le H1.out.1.lt (below1 w1 _).size)))
  rw [app_sem] at hrun
  have A2 := Lib.hid (H1.out.1.after grow2)
  have g3 : w2.cell? ⟨g, 3, none⟩ = some s.wv := row_cells A2.out.2 3
  have f3 : w2.frozen? ⟨g, 3, none⟩ = false := by simp [World.frozen?, A2.out.2]
  obtain ⟨-, d2, e2, -⟩ := (C1.out.turns A2.out.1).cells
  obtain ⟨ga, cap, rfl⟩ : ∃ ga cap, v' = .slice (some ⟨ga, 0, none⟩) (d.wait.length + 1) cap := by
    rcases own2.2 with ⟨-, hz⟩ | ⟨ga, cap, cur, hv, -⟩
    · omega
    · exact ⟨ga, cap, hv⟩
  have G2 := Lib.hid (And.intro own2 grow2)
  clear own2 grow2
  go_region
  have hp := H1.out.1.pushed G2.out.2 G2.out.1 (HB.out.2.1.turns H1.out.2 (fun cur => TB_byte _ _)) (N' := N + 1) (r := r) (by have := HB.out.2.2.1.numS; show s.nS + d.wait.length + 1 ≤ N + 1; omega) H1.out.1.numN
  exact ⟨rfl, .tuple #[], results_void rfl _ _, rfl, ⟨Dk.put_ok HB.out.2.2.2 hk hl, _, hp.1⟩, H1.out.2.trans hp.2⟩
end Go.Proofs.YtophhnolnlbecaaDoor
