/- Package block's Disk.Write: its contract. Package block's Disk.Write: its contract. Package block's Disk.Write: its contract. No statement is proved here. -/
import Derived.Test.YtonjapphhbhcpaaDoorDBlk3
import Derived.Test.YtonjapphhbhcpaaDoorAppSem
import Derived.StillTailTactics
import Derived.Deep.AppendLies
import Derived.Deep.RegionLaw
namespace Go.Proofs.YtonjapphhbhcpaaDoor
open Go.RowKit
open Go.Maps (Keyed IsMap Tidy)
set_option maxRecDepth 100000

/-- Where a write's closure finds what it captured. -/
structure Caps (w : World) (g xb db ab h : Nat) (v : Value) (k : Nat) : Prop where
  x : w.heap[xb]? = some (.cells #[v] 24)
  d : w.heap[db]? = some (.cells #[.pointer (some ⟨h, 0, none⟩)] 52)
  h : w.heap[h]? = some (.cells #[.pointer (some ⟨g, 0, none⟩)] 93)
  a : w.heap[ab]? = some (.cells #[.int .i64 (k : Int)] 3)
theorem TB_no {t : TypeId} (h1 : t ≠ 78) (h2 : t ≠ 95) (cur : Array Value) (fr : Nat × Nat) : ¬ TB (.cells cur t fr) := by
  rintro (h | h)
  · exact h1 h
  · exact h2 h
theorem Caps.turns {w w' : World} {B g xb db ab h : Nat} {v : Value} {k : Nat} (c : Caps w g xb db ab h v k) (ht : Turns TB B w w') : Caps w' g xb db ab h v k :=
  ⟨ht.block _ _ c.x (TB_no (by decide) (by decide) _ _), ht.block _ _ c.d (TB_no (by decide) (by decide) _ _), ht.block _ _ c.h (TB_no (by decide) (by decide) _ _), ht.block _ _ c.a (TB_no (by decide) (by decide) _ _)⟩
theorem Caps.cells {w : World} {g xb db ab h : Nat} {v : Value} {k : Nat} (c : Caps w g xb db ab h v k) : w.cell? ⟨xb, 0, none⟩ = some v ∧ w.cell? ⟨db, 0, none⟩ = some (.pointer (some ⟨h, 0, none⟩)) ∧ w.cell? ⟨h, 0, none⟩ = some (.pointer (some ⟨g, 0, none⟩)) ∧ w.cell? ⟨ab, 0, none⟩ = some (.int .i64 (k : Int)) :=
  ⟨row_cells c.x 0, row_cells c.d 0, row_cells c.h 0, row_cells c.a 0⟩
/-- A row put at a place of the map of what is read: the disk in between. -/
def Dk.half (d : Dk) (k : Nat) (r : List Int) : Dk := { d with now := upd d.now k r }
theorem BoxOf.half {w w' : World} {B : Base} {g N : Nat} {d : Dk} {s : Spot} (h : BoxOf w B g d N s) (k : Nat) {v : Value} {r : List Int} (hr : RowAt w B v r) {b n c : Nat} (hv : v = .slice (some ⟨b, 0, none⟩) n c)
    (hown : w'.ownsMap Tryd.prog 3 RowR s.nb (s.nN + 1) (s.DN.put (.int .i64 (k : Int)) (encS b n c))) (hg : w.grownBy w' (some s.nb)) :
    BoxOf w' B g (d.half k r) (N + 1) { s with nN := s.nN + 1, DN := s.DN.put (.int .i64 (k : Int)) (encS b n c) } ∧ Turns TB B.lo w w' := by
  have keep : ∀ v r, RowAt w B v r → RowAt w' B v r := fun v r hx => hx.keep fun b hb => hg.block b (hx.block b hb).choose_spec.2.2 (fun e => (h.rowNe hx b hb).2.2.1 (by injection e))
  refine ⟨?_, (Turns.refl TB B.lo w).grown hg (fun k e => ?_) (Nat.le_trans h.gB (Nat.le_of_lt h.lt))⟩
  · exact {
      box := (hg.block g h.lt (fun e => h.gnb (by injection e))).trans h.box
      gB := h.gB
      sB := h.sB
      nB := h.nB
      ne := h.ne
      mapS := owns_keep h.mapS (hg.block _ h.sbLt (fun e => h.ne (by injection e)))
      mapN := hown
      isS := h.isS.keep keep
      isN := (h.isN.put k hr hv).keep keep
      wlen := h.wlen
      wait := row_keepW h.wait fun b hb => hg.block b (h.wvObj b hb).choose_spec.2.2 (fun e => (h.wvNe b hb).2.2 (by injection e))
      rows := fun i p v h1 h2 => keep _ _ (h.rows i p v h1 h2)
      numS := Nat.le_succ_of_le h.numS
      numN := Nat.succ_le_succ h.numN
      many := h.many
      acts := h.acts }
  · injection e with e
    subst e
    obtain ⟨es, c, e⟩ := h.nbObj
    exact ⟨h.nB, _, e, trivial⟩
theorem find_row {w : World} {B : Base} {v : Value} {r : List Int} (hr : RowAt w B v r) : ∃ b n c, v = .slice (some ⟨b, 0, none⟩) n c := by
  obtain ⟨b, c, e, -⟩ := hr.form
  exact ⟨b, r.length, c, e⟩
theorem info_write : (Tryd.prog.info? 95).map (fun i => (i.zero, i.size, i.bytes)) = some (some (.agg #[.int .i64 0, .slice none 0 0]), 2, 32) := by kernel_rfl
theorem run_info_parts {e : TypeId} {z : Value} {n b : Nat} (h : (Tryd.prog.info? e).map (fun i => (i.zero, i.size, i.bytes)) = some (some z, n, b)) : ∃ i, Tryd.prog.info? e = some i ∧ i.zero = some z ∧ i.size = n ∧ i.bytes = b := info_parts h
/-- Behind the append: what the rest of the statement reads and writes. -/
theorem BoxOf.after {w w' : World} {B : Base} {g N : Nat} {d : Dk} {s : Spot} (h : BoxOf w B g d N s) {X : Obj} (hg : (w.alloc X).drew.grownBy w' s.wv.ownBlock) : Turns TB B.lo w w' ∧ w'.heap[g]? = some (.cells (boxC d s.sb s.nb s.wv) 78) := by
  have h1 : Turns TB B.lo w (w.alloc X) := Turns.of_below (Nat.le_trans h.gB (Nat.le_of_lt h.lt)) (below1 w X)
  refine ⟨h1.grown ⟨hg.os, hg.tape, hg.output, hg.size, hg.block⟩ (fun k e => ?_) (Nat.le_trans h.gB (Nat.le_of_lt (Nat.lt_of_lt_of_le h.lt (below1 w X).size))), ?_⟩
  · obtain ⟨cur, e1, e2, e3⟩ := h.wvObj k e
    exact ⟨e2, _, ((below1 w X).block k e3).trans e1, TB_write _ _⟩
  · refine (hg.block g (Nat.lt_of_lt_of_le h.lt (below1 w X).size) (fun e => (h.wvNe g e.symm).1 rfl)).trans ?_
    exact ((below1 w X).block g h.lt).trans h.box
/-- A write put behind those that wait. -/
def Dk.queue (d : Dk) (k : Nat) (r : List Int) : Dk := { d with wait := d.wait ++ [(k, r)] }
theorem BoxOf.pushed {w w' : World} {B : Base} {g N N' : Nat} {d : Dk} {s : Spot} (h : BoxOf w B g d N s) {X : Obj} (hg : (w.alloc X).drew.grownBy w' s.wv.ownBlock) {ga cap k : Nat} {v : Value} {r : List Int}
    (own : w'.ownsRow B.lo 95 2 (.slice (some ⟨ga, 0, none⟩) (d.wait.length + 1) cap) (d.wait.length + 1) (waitC d.wait s.vs ++ [.int .i64 (k : Int), v])) (hr : RowAt w B v r) (hS : s.nS + d.wait.length + 1 ≤ N') (hN : s.nN ≤ N') :
    BoxOf (w'.setCell ⟨g, 3, none⟩ (.slice (some ⟨ga, 0, none⟩) (d.wait.length + 1) cap)) B g (d.queue k r) N' { s with wv := .slice (some ⟨ga, 0, none⟩) (d.wait.length + 1) cap, vs := s.vs ++ [v] } ∧ Turns TB B.lo w (w'.setCell ⟨g, 3, none⟩ (.slice (some ⟨ga, 0, none⟩) (d.wait.length + 1) cap)) := by
  obtain ⟨ht, hgb⟩ := h.after hg
  have keepB : ∀ x, x < w.heap.size → x ≠ g → some x ≠ s.wv.ownBlock → (w'.setCell ⟨g, 3, none⟩ (.slice (some ⟨ga, 0, none⟩) (d.wait.length + 1) cap)).heap[x]? = w.heap[x]? := fun x hx hne hnw =>
    (set_off _ _ hne).trans ((hg.block x (Nat.lt_of_lt_of_le hx (below1 w X).size) hnw).trans ((below1 w X).block x hx))
  have keep : ∀ v r, RowAt w B v r → RowAt (w'.setCell ⟨g, 3, none⟩ (.slice (some ⟨ga, 0, none⟩) (d.wait.length + 1) cap)) B v r := fun v r hx => hx.keep fun b hb =>
    keepB b (hx.block b hb).choose_spec.2.2 (h.rowNe hx b hb).1 (fun e => (h.rowNe hx b hb).2.2.2 b e.symm rfl)
  have hga : ga ≠ g := by
    rintro rfl
    rcases own.2 with ⟨e, -⟩ | ⟨g', cap', cur, hv, hB, hgg, -⟩
    · cases e
    · injection hv with e1
      injection e1 with e1
      injection e1 with e1
      subst e1
      rw [hgb] at hgg
      injection hgg with e
      injection e with _ e
      exact box_not_write e
  refine ⟨?_, ht.setCell (p := ⟨g, 3, none⟩) hgb (TB_box _ _) h.gB _⟩
  exact {
    box := set_heap (i := 3) hgb _
    gB := h.gB
    sB := h.sB
    nB := h.nB
    ne := h.ne
    mapS := owns_keep h.mapS (keepB _ h.sbLt h.gsb.symm (fun e => (h.wvNe _ e.symm).2.1 rfl))
    mapN := owns_keep h.mapN (keepB _ h.nbLt h.gnb.symm (fun e => (h.wvNe _ e.symm).2.2 rfl))
    isS := h.isS.keep keep
    isN := h.isN.keep keep
    wlen := by show (s.vs ++ [v]).length = (d.wait ++ [(k, r)]).length; rw [List.length_append, List.length_append, h.wlen]; rfl
    wait := by
      show World.ownsRow _ B.lo 95 2 (.slice (some ⟨ga, 0, none⟩) (d.wait.length + 1) cap) (d.wait ++ [(k, r)]).length (waitC (d.wait ++ [(k, r)]) (s.vs ++ [v]))
      rw [waitC_snoc _ _ h.wlen, List.length_append]
      exact row_keepW own fun b hb => by
        injection hb with hb
        subst hb
        exact set_off _ _ hga
    rows := fun i p u h1 h2 => by
      replace h1 : (d.wait ++ [(k, r)])[i]? = some p := h1
      replace h2 : (s.vs ++ [v])[i]? = some u := h2
      by_cases hi : i < d.wait.length
      · rw [List.getElem?_append_left hi] at h1
        rw [List.getElem?_append_left (by rw [h.wlen]; exact hi)] at h2
        exact keep _ _ (h.rows i p u h1 h2)
      · have hi2 := lt_of_get h1
        rw [List.length_append, List.length_singleton] at hi2
        have e : i = d.wait.length := by omega
        rw [e, List.getElem?_append_right (Nat.le_refl _), Nat.sub_self] at h1
        rw [e, ← h.wlen, List.getElem?_append_right (Nat.le_refl _), Nat.sub_self] at h2
        injection h1 with h1
        injection h2 with h2
        subst h1 h2
        exact keep _ _ hr
    numS := by
      show s.nS + (d.wait ++ [(k, r)]).length ≤ N'
      rw [List.length_append, List.length_singleton]; omega
    numN := hN
    many := h.many
    acts := h.acts }
attribute [local go_sem ↓] app_sem
set_option maxHeartbeats 4000000 in
theorem write1_any (xb db ab h g : Nat) (k : Nat) (v : Value) (r : List Int) (w : World) (B : Base) (N : Nat) (d : Dk) (hc : Caps w g xb db ab h v k) (hr : RowAt w B v r) (hl : r.length = 512) (hk : k < d.many) (hN : N ≤ 1099511627776) (hb : BoxAt w B g d N) :
    Calls Tryd.prog 86 #[.pointer (some ⟨xb, 0, none⟩), .pointer (some ⟨db, 0, none⟩), .pointer (some ⟨ab, 0, none⟩)] w fun e w' => e = .returned (.tuple #[]) ∧ BoxAt w' B g (d.put k r) (N + 1) ∧ Turns TB B.lo w w' := by
  obtain ⟨hok, s, hb⟩ := hb
  obtain ⟨b, n, c, rfl⟩ := find_row hr
  obtain ⟨q0, q1, q2, q3, q4, q5, q6, q7⟩ := boxC_get d s.sb s.nb s.wv
  have c2 := (hb.cells 2).trans q2
  have hm := hb.many
  obtain ⟨cx, cd, ch, ca⟩ := hc.cells
  have HB := Lib.hid (And.intro hc (And.intro hr (And.intro hb hok)))
  have HK := Lib.hid (key_at (k := (k : Int)) (by unfold okInt; omega))
  have HM := Lib.hid (show s.nN < maxLen by have := hb.numN; unfold maxLen; omega)
  clear q0 q1 q2 q3 q4 q5 q6 q7 hc hr hb
  go_enter Tryd.func86, Tryd.ntmps86
  go_wp2_with fail
  go_still_tail 9, (by kernel_rfl)
  change wpList _ _ _ _ _ w.drew
  go_wp2_with (refine wpList_mapUpdate_own _ rfl _ _ _ 75 rfl 3 24 keyK Tryd.underlying75 RowR s.nb s.nN s.DN rfl HB.out.2.2.1.mapN.drew HM.out _ _ (.int .i64 (k : Int)) rfl rfl HK.out (encS b n c) [] (rowR_mk b n c) ?_; intro w1 hown hgr; have H1 := Lib.hid (HB.out.2.2.1.half k HB.out.2.1 rfl hown ⟨hgr.os, hgr.tape, hgr.output, hgr.size, hgr.block⟩); clear hown hgr)
  simp only [Act.put]
  obtain ⟨i0, hi0, hz0, hz1, hz2⟩ := info_parts info_write
  have I0 := Lib.hid (And.intro hi0 (And.intro hz0 (And.intro hz1 hz2)))
  clear hi0 hz0 hz1 hz2 c2 cx cd ch ca
  have C1 := Lib.hid (HB.out.1.turns H1.out.2)
  obtain ⟨cx, cd, ch, ca⟩ := C1.out.cells
  have c3 := H1.out.1.cells 3
  replace c3 : w1.cell? ⟨g, 3, none⟩ = some s.wv := c3
  obtain ⟨X0, hX0⟩ : ∃ X0 : Obj, X0 = .cells #[.int .i64 (k : Int), .slice (some ⟨b, 0, none⟩) n c] 95 := ⟨_, rfl⟩
  have a0 := (C1.out.turns (Turns.of_below (T := TB) (Nat.le_refl _) (below1 w1 X0))).cells
  obtain ⟨ax, ad, ah, aa⟩ := a0
  have a3 : (w1.alloc X0).cell? ⟨g, 3, none⟩ = some s.wv := (H1.out.1.then_ (below1 w1 X0)).cells 3
  rw [hX0] at ax ad ah aa a3
  clear hX0
  have HN : d.wait.length + 1 ≤ 1099511627777 := by have : s.nS + d.wait.length ≤ N := HB.out.2.2.1.numS; omega
  obtain ⟨v', w2, hrun, own2, grow2, -⟩ := run_append_own (P := Tryd.prog) (w := (w1.alloc (.cells #[.int .i64 (k : Int), .slice (some ⟨b, 0, none⟩) n c] 95)).drew) B.lo 76 76 95 i0 _ 2 32 Tryd.underlying76 I0.out.1 I0.out.2.1 I0.out.2.2.1 I0.out.2.2.2 rfl (by decide) s.wv d.wait.length (waitC d.wait s.vs) (World.ownsRow.alloc H1.out.1.wait _) ⟨w1.heap.size, 0, none⟩ 1 1 [.int .i64 (k : Int), .slice (some ⟨b, 0, none⟩) n c] rfl (fun j u hu => news_at w1 _ _ _ rfl j u hu) (by intro u hu; simp at hu; rcases hu with rfl | rfl <;> rfl) (by unfold maxLen; omega) (by omega) (Nat.le_trans H1.out.1.gB (Nat.le_of_lt (Nat.lt_of_lt_of_le H1.out.1.lt (below1 w1 _).size)))
  rw [app_sem] at hrun
  have A2 := Lib.hid (H1.out.1.after grow2)
  have g3 : w2.cell? ⟨g, 3, none⟩ = some s.wv := row_cells A2.out.2 3
  have f3 : w2.frozen? ⟨g, 3, none⟩ = false := by simp [World.frozen?, A2.out.2]
  obtain ⟨-, d2, e2, -⟩ := (C1.out.turns A2.out.1).cells
  obtain ⟨ga, cap, rfl⟩ : ∃ ga cap, v' = .slice (some ⟨ga, 0, none⟩) (d.wait.length + 1) cap := by
    rcases own2.2 with ⟨-, hz⟩ | ⟨ga, cap, cur, hv, -⟩
    · omega
    · exact ⟨ga, cap, hv⟩
  have G2 := Lib.hid (And.intro own2 grow2)
  clear own2 grow2
  go_region
  have hp := H1.out.1.pushed G2.out.2 G2.out.1 (HB.out.2.1.turns H1.out.2 (fun cur => TB_byte _ _)) (N' := N + 1) (r := r) (by have := HB.out.2.2.1.numS; show s.nS + d.wait.length + 1 ≤ N + 1; omega) H1.out.1.numN
  exact ⟨rfl, .tuple #[], results_void rfl _ _, rfl, ⟨Dk.put_ok HB.out.2.2.2 hk hl, _, hp.1⟩, H1.out.2.trans hp.2⟩
end Go.Proofs.YtonjapphhbhcpaaDoor
namespace Go.Proofs.YtonjapphhbhcpaaDoor
open Go.RowKit
open Go.Maps (Keyed IsMap Tidy)
set_option maxRecDepth 100000

/-- The disk goes down. -/
theorem down_end {w : World} {B : Base} {g N : Nat} {d : Dk} {s : Spot} (hok : d.ok) (h : BoxOf w B g d N s) : BoxAt (w.setCell ⟨g, 7, none⟩ (.bool true)) B g { d with down := true } N ∧ Turns TB B.lo w (w.setCell ⟨g, 7, none⟩ (.bool true)) :=
  ⟨⟨⟨hok.now, hok.rowS, hok.rowW⟩, s, h.turn (d' := { d with down := true }) (fun x _ hne => set_off _ _ hne) (set_heap (i := 7) h.box (.bool true)) rfl rfl rfl rfl h.acts⟩, (Turns.refl TB B.lo w).setCell (p := ⟨g, 7, none⟩) h.box (TB_box _ _) h.gB (.bool true)⟩
/-- An act less. -/
theorem less_end {w : World} {B : Base} {g N : Nat} {d : Dk} {s : Spot} (hok : d.ok) (h : BoxOf w B g d N s) : BoxAt (w.setCell ⟨g, 5, none⟩ (.int .i64 ((d.acts - 1 : Nat) : Int))) B g { d with acts := d.acts - 1 } N ∧ Turns TB B.lo w (w.setCell ⟨g, 5, none⟩ (.int .i64 ((d.acts - 1 : Nat) : Int))) :=
  ⟨⟨⟨hok.now, hok.rowS, hok.rowW⟩, s, h.turn (d' := { d with acts := d.acts - 1 }) (fun x _ hne => set_off _ _ hne) (set_heap (i := 5) h.box (.int .i64 ((d.acts - 1 : Nat) : Int))) rfl rfl rfl rfl (by have := h.acts; show d.acts - 1 ≤ _; omega)⟩, (Turns.refl TB B.lo w).setCell (p := ⟨g, 5, none⟩) h.box (TB_box _ _) h.gB _⟩
set_option maxHeartbeats 4000000 in
theorem act_write (g : Nat) (w : World) (B : Base) (N N' : Nat) (d : Dk) (f : Dk → Dk) (a b c : Addr) (hb : BoxAt w B g d N)
    (hf : ∀ w1 d1, BoxAt w1 B g d1 N → d1.many = d.many → Turns TB B.lo w w1 → Calls Tryd.prog 86 #[.pointer (some a), .pointer (some b), .pointer (some c)] w1 fun e w' => e = .returned (.tuple #[]) ∧ BoxAt w' B g (f d1) N' ∧ Turns TB B.lo w1 w')
    (hdn : ∀ d1 : Dk, f { d1 with down := true } = { f d1 with down := true }) (hN : N ≤ N') :
    Calls Tryd.prog 73 #[.pointer (some ⟨g, 0, none⟩), .func (.func 86) #[] #[.pointer (some a), .pointer (some b), .pointer (some c)]] w fun e w' => e = .returned (errV d.errA) ∧ BoxAt w' B g (if d.does then f d.acted else d.acted) N' ∧ Turns TB B.lo w w' := by
  have HF := Lib.hid hf
  have HD := Lib.hid hdn
  clear hf hdn
  have HB := Lib.hid hb
  obtain ⟨hok, s, hb⟩ := hb
  obtain ⟨q0, q1, q2, q3, q4, q5, q6, q7⟩ := boxC_get d s.sb s.nb s.wv
  have c4 := (hb.cells 4).trans q4
  have c5 := (hb.cells 5).trans q5
  have c6 := (hb.cells 6).trans q6
  have c7 := (hb.cells 7).trans q7
  have f5 := hb.frozen 5
  have f7 := hb.frozen 7
  have HO := Lib.hid hb
  have ha := hb.acts
  clear q0 q1 q2 q3 q4 q5 q6 q7 hb hok
  by_cases h4 : d.armed = false
  · have hg : d.goes = false := by unfold Dk.goes; rw [h4]; rfl
    have h1 : d.does = true := by unfold Dk.does; rw [hg]; rfl
    have h2 : d.acted = d := by unfold Dk.acted; rw [hg, h4]; rfl
    have h3 : d.errA = 0 := by unfold Dk.errA; rw [hg]; rfl
    rw [h1, h2, h3, if_pos rfl, errV_zero]
    rw [h4] at c4
    have HC := Lib.hid (HF.out w d HB.out rfl (Turns.refl _ _ _))
    clear hg h1 h2 h3 h4
    go_enter Tryd.func73, Tryd.ntmps73
    go_wp2_with (go_at_call 86; refine HC.out.mono ?_; rintro e w1 ⟨rfl, hb1, ht1⟩)
    go_ret
    exact ⟨rfl, hb1, ht1⟩
  · replace h4 : d.armed = true := by simpa using h4
    rw [h4] at c4
    by_cases h5 : d.acts = 0
    · have hg : d.goes = true := by unfold Dk.goes; rw [h4, h5]; rfl
      have h2 : d.acted = { d with down := true } := by unfold Dk.acted; rw [hg]; rfl
      have h3 : d.errA = 5 := by unfold Dk.errA; rw [hg]; rfl
      have hz : ((d.acts : Int) == 0) = true := by rw [h5]; rfl
      rw [h2, h3, errV_mk (by omega)]
      by_cases h6 : d.done = false
      · have h1 : d.does = false := by unfold Dk.does; rw [hg]; exact h6
        rw [h6] at c6
        rw [h1, if_neg (by simp)]
        have HE := Lib.hid (down_end HB.out.1 HO.out)
        clear hg h1 h2 h3 h4 h5 h6
        go_enter Tryd.func73, Tryd.ntmps73
        go_wp2_with fail
        go_ret
        exact ⟨rfl, HE.out.1.more hN, HE.out.2⟩
      · replace h6 : d.done = true := by simpa using h6
        have h1 : d.does = true := by unfold Dk.does; rw [hg]; exact h6
        rw [h6] at c6
        rw [h1]
        have HC := Lib.hid (HF.out w d HB.out rfl (Turns.refl _ _ _))
        rw [if_pos rfl]
        clear hg h1 h2 h3 h4 h5 h6
        go_enter Tryd.func73, Tryd.ntmps73
        go_wp2_with (go_at_call 86; refine HC.out.mono ?_; rintro e w1 ⟨rfl, ⟨k1, s1, hb1⟩, ht1⟩; have HE := Lib.hid (down_end k1 hb1); have c71 := (hb1.cells 7).trans (boxC_get (f d) s1.sb s1.nb s1.wv).2.2.2.2.2.2.2; have f71 := hb1.frozen 7; have HT := Lib.hid ht1; clear k1 hb1 ht1)
        go_ret
        exact ⟨rfl, by rw [HD.out]; exact HE.out.1, HT.out.trans HE.out.2⟩
    · have hg : d.goes = false := by unfold Dk.goes; rw [h4]; simp [h5]
      have h1 : d.does = true := by unfold Dk.does; rw [hg]; rfl
      have h2 : d.acted = { d with acts := d.acts - 1 } := by unfold Dk.acted; rw [hg, h4]; rfl
      have h3 : d.errA = 0 := by unfold Dk.errA; rw [hg]; rfl
      have hz : ((d.acts : Int) == 0) = false := by simp; omega
      have hw : wrap64 ((d.acts : Int) - 1) = ((d.acts - 1 : Nat) : Int) := by simp only [wrap64]; omega
      have hw2 : (d.acts : Int) - 1 = ((d.acts - 1 : Nat) : Int) := by omega
      rw [h1, h2, h3, if_pos rfl, errV_zero]
      have HA := Lib.hid (less_end HB.out.1 HO.out)
      have HC := Lib.hid (HF.out _ _ HA.out.1 rfl HA.out.2)
      clear hg h1 h2 h3 h4
      go_enter Tryd.func73, Tryd.ntmps73
      go_wp2_with (go_at_call 86; (first | rw [hw] | rw [hw2] | skip); refine HC.out.mono ?_; rintro e w1 ⟨rfl, hb1, ht1⟩)
      go_ret
      exact ⟨rfl, hb1, HA.out.2.trans ht1⟩
end Go.Proofs.YtonjapphhbhcpaaDoor
namespace Go.Proofs.YtonjapphhbhcpaaDoor
open Go.RowKit
open Go.Maps (Keyed IsMap Tidy)
set_option maxRecDepth 100000

theorem Dk.write_down {d : Dk} (h : d.down = true) (at_ : Int) (l : List Int) : d.write at_ l = d ∧ d.writeE at_ l = 5 := by
  unfold Dk.write Dk.writeE; rw [if_pos h, if_pos h]; exact ⟨rfl, rfl⟩
theorem Dk.write_bad {d : Dk} (h : d.down = false) {at_ : Int} {l : List Int} (hb : d.badW at_ l.length = true) : d.write at_ l = d ∧ d.writeE at_ l = 1 := by
  simp [Dk.write, Dk.writeE, h, hb]
theorem Dk.write_good {d : Dk} (h : d.down = false) {at_ : Int} {l : List Int} (hb : d.badW at_ l.length = false) : d.write at_ l = (if d.does then d.acted.put at_.toNat l else d.acted) ∧ d.writeE at_ l = d.errA := by
  simp [Dk.write, Dk.writeE, h, hb]
structure CapsIn (w : World) (g db ab h : Nat) (k : Nat) : Prop where
  d : w.heap[db]? = some (.cells #[.pointer (some ⟨h, 0, none⟩)] 52)
  h : w.heap[h]? = some (.cells #[.pointer (some ⟨g, 0, none⟩)] 93)
  a : w.heap[ab]? = some (.cells #[.int .i64 (k : Int)] 3)
theorem CapsIn.made {w w2 : World} {g db ab h k : Nat} (c : CapsIn w g db ab h k) (hb : Below w.heap.size w w2) (v : Value) : Caps (w2.alloc (.cells #[v] 24)) g w2.heap.size db ab h v k := by
  have hb3 := below_then hb (below1 w2 (.cells #[v] 24))
  exact ⟨heap_alloc_new w2 _, (hb3.block _ (lt_of_block c.d)).trans c.d, (hb3.block _ (lt_of_block c.h)).trans c.h, (hb3.block _ (lt_of_block c.a)).trans c.a⟩
theorem Turns.drew {T : Obj → Prop} {B : Nat} {a b : World} (h : Turns T B a b) : Turns T B a b.drew := ⟨h.below.drew, h.block⟩
set_option maxHeartbeats 4000000 in
theorem dwrite_any (h g : Nat) (at_ : Int) (la : Option Addr) (n c : Nat) (l : List Int) (w : World) (B : Base) (N : Nat) (d : Dk) (ha : okInt at_) (hh : w.heap[h]? = some (.cells #[.pointer (some ⟨g, 0, none⟩)] 93)) (hb : BoxAt w B g d N) (hin : InB w la l) (hB : isB l) (hn : l.length = n) (hN : N ≤ 1099511627776) (hX : ∀ y, B.off = some y → y < w.heap.size) :
    Calls Tryd.prog 71 #[.pointer (some ⟨h, 0, none⟩), .int .i64 at_, .slice la n c] w fun e w' => e = .returned (errV (d.writeE at_ l)) ∧ BoxAt w' B g (d.write at_ l) (N + 1) ∧ Turns TB B.lo w w' := by
  have HB := Lib.hid hb
  have HXO := Lib.hid hX
  clear hX
  obtain ⟨hok, s, hb⟩ := hb
  obtain ⟨q0, q1, q2, q3, q4, q5, q6, q7⟩ := boxC_get d s.sb s.nb s.wv
  have c0 := (hb.cells 0).trans q0
  have c7 := (hb.cells 7).trans q7
  have hm := hb.many
  have h0 := row_cells hh 0
  have hlt := lt_of_block hh
  have glt := hb.lt
  replace h0 : w.cell? ⟨h, 0, none⟩ = some (.pointer (some ⟨g, 0, none⟩)) := h0
  have HA := Lib.hid (And.intro hin (And.intro hB (And.intro hn hh)))
  have hgB := hb.gB
  have HT2 := Lib.hid (fun X Y => Turns.of_below (T := TB) (B := B.lo) (by omega) (below2 w X Y))
  unfold okInt at ha
  clear q0 q1 q2 q3 q4 q5 q6 q7 hb hok hin hB
  by_cases hd : d.down = true
  · obtain ⟨e1, e2⟩ := Dk.write_down hd at_ l
    rw [e1, e2, errV_mk (by omega)]
    rw [hd] at c7
    clear hd e1 e2
    go_enter Tryd.func71, Tryd.ntmps71
    go_wp2_with fail
    go_ret
    exact ⟨rfl, (HB.out.then_ (below2 _ _ _)).more (by omega), HT2.out _ _⟩
  replace hd : d.down = false := by simpa using hd
  by_cases hbad : d.badW at_ l.length = true
  · obtain ⟨e1, e2⟩ := Dk.write_bad hd hbad
    rw [e1, e2, errV_mk (by omega)]
    rw [hd] at c7
    have hx : at_ < 0 ∨ (d.many : Int) ≤ at_ ∨ n ≠ 512 := by
      unfold Dk.badW at hbad
      simp at hbad
      omega
    clear hd e1 e2 hbad
    by_cases x1 : at_ < 0
    · have y1 : decide (at_ < 0) = true := decide_eq_true x1
      clear hx x1
      go_enter Tryd.func71, Tryd.ntmps71
      go_wp2_with fail
      go_region
      all_goals go_wp2_with fail
      go_ret
      exact ⟨rfl, (HB.out.then_ (below2 _ _ _).drew).more (by omega), (HT2.out _ _).drew⟩
    have y1 : decide (at_ < 0) = false := decide_eq_false x1
    by_cases x2 : (d.many : Int) ≤ at_
    · have y2 : decide ((d.many : Int) ≤ at_) = true := decide_eq_true x2
      clear hx x1 x2
      go_enter Tryd.func71, Tryd.ntmps71
      go_wp2_with fail
      go_region
      all_goals go_wp2_with fail
      go_ret
      exact ⟨rfl, (HB.out.then_ (below2 _ _ _).drew).more (by omega), (HT2.out _ _).drew⟩
    have y2 : decide ((d.many : Int) ≤ at_) = false := decide_eq_false x2
    have x3 : n ≠ 512 := by omega
    have x4 : ((n : Int) != 512) = true := by simp; omega
    clear hx
    go_enter Tryd.func71, Tryd.ntmps71
    go_wp2_with fail
    go_region
    all_goals go_wp2_with fail
    go_ret
    exact ⟨rfl, (HB.out.then_ (below2 _ _ _).drew).more (by omega), (HT2.out _ _).drew⟩
  · replace hbad : d.badW at_ l.length = false := by simpa using hbad
    obtain ⟨e1, e2⟩ := Dk.write_good hd hbad
    obtain ⟨b1, b2, b3⟩ := Dk.badW_no hbad
    rw [e1, e2]
    generalize hD : (if d.does = true then d.acted.put at_.toNat l else d.acted) = D
    rw [hd] at c7
    obtain ⟨k, rfl⟩ := Int.eq_ofNat_of_zero_le b1
    have x3 : n = 512 := by omega
    subst x3
    have HD := Lib.hid (show (if d.does = true then d.acted.put k l else d.acted) = D from hD)
    clear hD
    have y1 : decide ((k : Int) < 0) = false := decide_eq_false (by omega)
    have y2 : decide ((d.many : Int) ≤ (k : Int)) = false := decide_eq_false (by omega)
    have y3 : decide (d.many ≤ k) = false := decide_eq_false (by omega)
    clear hd e1 e2 hbad b1
    go_enter Tryd.func71, Tryd.ntmps71
    go_wp2_with fail
    go_region
    have HWb := Lib.hid (Below.drew (below2 w (.cells #[.pointer (some ⟨h, 0, none⟩)] 52) (.cells #[.int .i64 (k : Int)] 3)))
    have HLN : Hid (la = none → c = 0 ∧ l = []) := Lib.hid (fun e => by obtain ⟨_, _, _, e2, -, -⟩ := HA.out.1.one (i := 0) (by rw [HA.out.2.2.1]; omega); rw [e] at e2; cases e2)
    have HC1 : Hid (CapsIn ((w.alloc (.cells #[.pointer (some ⟨h, 0, none⟩)] 52)).alloc (.cells #[.int .i64 (k : Int)] 3)).drew g w.heap.size (w.heap.size + 1) h k) := Lib.hid ⟨((below1 (w.alloc (.cells #[.pointer (some ⟨h, 0, none⟩)] 52)) (.cells #[.int .i64 (k : Int)] 3)).block w.heap.size (by simp)).trans (heap_alloc_new w _), ((below2 w _ _).block h hlt).trans HA.out.2.2.2, heap_alloc_at (w.alloc (.cells #[.pointer (some ⟨h, 0, none⟩)] 52)) _ _ (by simp)⟩
    have HW := Lib.hid (Turns.drew (HT2.out (.cells #[.pointer (some ⟨h, 0, none⟩)] 52) (.cells #[.int .i64 (k : Int)] 3)))
    have HWB := Lib.hid (show B.lo ≤ ((w.alloc (.cells #[.pointer (some ⟨h, 0, none⟩)] 52)).alloc (.cells #[.int .i64 (k : Int)] 3)).drew.heap.size by exact Nat.le_trans hgB (Nat.le_trans (Nat.le_of_lt glt) HWb.out.size))
    generalize ((w.alloc (.cells #[.pointer (some ⟨h, 0, none⟩)] 52)).alloc (.cells #[.int .i64 (k : Int)] 3)).drew = w1 at *
    go_wp2_with (first
      | (at_builtin; refine apR rfl (.const (.slice none 0 0)) (.tmp 37) rfl w1.heap.size _ _ rfl (OwnB.nil _ _) la 512 c l rfl HA.out.2.2.1 (HA.out.1.then_ HWb.out) HLN.out (by simp) (Nat.le_refl _) ?_; intro v w2 hg2; have HG := Lib.hid (hg2.below (OwnB.nil _ _) (Below.refl _ _) (Nat.le_refl _) (Nat.le_refl _)); have HR : Hid (RowAt w2 w1.heap.size v l) := Lib.hid ⟨by { have := hg2.own; rwa [List.nil_append] at this }, by { have := HA.out.2.2.1; omega }, fun _ _ e => by cases e⟩; obtain ⟨gv, cv, ev, -⟩ := HR.out.form; rw [HA.out.2.2.1] at ev; subst ev; have HC3 := Lib.hid (HC1.out.made HG.out (.slice (some ⟨gv, 0, none⟩) 512 cv)); have x3 := HC3.out.cells; obtain ⟨x31, x32, x33, x34⟩ := x3; clear hg2)
      | (go_at_call 73; refine (act_write g _ B N (N + 1) d (fun d1 => d1.put k l) _ _ _ (HB.out.then_ ((HWb.out.trans (HG.out.mono HWb.out.size)).trans ((below1 w2 _).mono (Nat.le_trans HWb.out.size HG.out.size)))) (fun w4 d1 h1 h2 h3 => write1_any _ _ _ h g k _ l w4 B N d1 (HC3.out.turns h3) (((HR.out.base HWB.out (fun b hb e => Nat.lt_irrefl b (Nat.lt_of_lt_of_le (HXO.out b e) (Nat.le_trans HWb.out.size (HR.out.block b hb).choose_spec.2.1)))).then_ (below1 w2 _)).turns h3 (fun cur => TB_byte _ _)) HA.out.2.2.1 (by rw [h2]; omega) hN h1) (fun d1 => rfl) (by omega)).mono ?_; rintro e w5 ⟨rfl, hb5, ht5⟩; have H5 := Lib.hid (And.intro hb5 ht5); clear hb5 ht5))
    go_ret
    exact ⟨rfl, HD.out ▸ H5.out.1, (HW.out.trans (Turns.of_below HWB.out (HG.out.trans ((below1 w2 _).mono HG.out.size)))).trans H5.out.2⟩
end Go.Proofs.YtonjapphhbhcpaaDoor
