/- A row of rows that are someone else's: its spine is the call's own. A disk whose rows lie off a block: that block may turn. Package block's Disk.Sync: its contract. No statement is proved here. -/
import Derived.Test.YtophhnolnlbecaaDoorQ22
import Derived.Test.YtophhnolnlbecaaDoorQ12
import Derived.Test.YtophhnolnlbecaaDoorQ13
namespace Go.Proofs.YtophhnolnlbecaaDoor
open Go.RowKit
set_option maxRecDepth 100000

/-- A slice that lies in a world. -/
def SlIn (W : World) (x : Value) (l : List Int) : Prop := ∃ ax cx, x = .slice ax l.length cx ∧ InB W ax l ∧ (ax = none → cx = 0 ∧ l = []) ∧ l.length ≤ cx ∧ cx ≤ maxLen ∧ isB l
/-- A row of slices: the spine is a block from B on; what the slices hold lies in W. -/
structure Put (W w : World) (B : Nat) (v : Value) (rs : List (Value × List Int)) : Prop where
  row : w.ownsRow B 22 1 v rs.length (rs.map (·.1))
  all : ∀ p ∈ rs, SlIn W p.1 p.2
section
variable {W w w' : World} {B : Nat} {v : Value} {rs : List (Value × List Int)}
theorem Put.nil (W w : World) (B : Nat) : Put W w B (.slice none 0 0) [] := ⟨World.ownsRow_nil _ _ _ _, fun p h => by simp at h⟩
theorem Put.block (h : Put W w B v rs) : ∀ g, v.ownBlock = some g → B ≤ g ∧ g < w.heap.size := World.ownsRow.lt h.row
theorem Put.obj (h : Put W w B v rs) : ∀ g, v.ownBlock = some g → ∃ cur, w.heap[g]? = some (.cells cur 22) := by
  obtain ⟨h1, h2⟩ := h.row
  intro g hg
  rcases h2 with ⟨hv, -⟩ | ⟨g', cap, cur, hv, hb, hg', hrest⟩
  · rw [hv] at hg
    cases hg
  · rw [hv] at hg
    injection hg with hg
    subst hg
    exact ⟨cur, hg'⟩
theorem Put.keep (h : Put W w B v rs) (hb : ∀ g, v.ownBlock = some g → w'.heap[g]? = w.heap[g]?) : Put W w' B v rs := ⟨rr_keep h.row hb, h.all⟩
theorem Put.then_ (h : Put W w B v rs) (hb : Below w.heap.size w w') : Put W w' B v rs := h.keep fun g hg => hb.block g (h.block g hg).2
theorem Put.form (h : Put W w B v rs) : ∃ a c, v = .slice a rs.length c ∧ rs.length ≤ c ∧ (a = none → c = 0) ∧ (∀ ad, a = some ad → ad.spot = none) := by
  obtain ⟨h1, h2⟩ := h.row
  rcases h2 with ⟨hv, hz⟩ | ⟨g, cap, cur, hv, hb, hg, hle, hrest⟩
  · exact ⟨none, 0, by rw [hv, hz], by omega, fun _ => rfl, fun ad e => by cases e⟩
  · exact ⟨_, cap, hv, hle, fun e => (by cases e), fun ad e => by injection e with e; rw [← e]⟩
/-- What stands in its first n places, to be read. -/
theorem Put.inRR (h : Put W w B v rs) (hW : Below W.heap.size W w) {a : Option Addr} {n c : Nat} (hv : v = .slice a n c) : InRR w a (rs.map (·.2)) := fun i l e => by
  rw [List.getElem?_map, Option.map_eq_some_iff] at e
  obtain ⟨⟨x, l'⟩, hp, e2⟩ := e
  dsimp only at e2
  subst e2
  obtain ⟨ax, cx, hx, h1, h2, h3, h4, h5⟩ := h.all _ (List.mem_of_getElem? hp)
  dsimp only at hx
  subst hx
  have hlt := lt_of_get hp
  have h0 := h.row
  obtain ⟨-, h7⟩ := h.row
  rcases h7 with ⟨-, hz⟩ | ⟨g, cap, cur, hv', hrest⟩
  · omega
  · have hc := World.ownsRow.cells h0 (g := g) (by rw [hv']; rfl) i (.slice ax l'.length cx) (by rw [List.getElem?_map, hp]; rfl)
    have e : (⟨g, 0, none⟩ : Addr).add i = ⟨g, i, none⟩ := by unfold Addr.add; split <;> simp_all
    rw [e] at hc
    rw [hv] at hv'
    injection hv' with e1 e2 e3
    exact ⟨g, 0, ax, cx, e1, by rw [Nat.zero_add]; exact hc, h1.then_ hW, h2, h3, h4, h5⟩
theorem InRR.take {a : Option Addr} {ls : List (List Int)} (h : InRR w a ls) (n : Nat) : InRR w a (ls.take n) := fun i l e => by
  rw [List.getElem?_take] at e
  split at e
  · exact h i l e
  · cases e
theorem SlIn.one {x : Value} {l : List Int} (h : SlIn W x l) : x.oneCell' = true := by
  obtain ⟨a, c, rfl, -⟩ := h
  rfl
/-- One is put behind the others. -/
theorem run_put (w : World) (ty : TypeId) (B : Nat) (v : Value) (rs : List (Value × List Int)) (h : Put W w B v rs) (x : Value) (l : List Int) (hx : SlIn W x l) (ad : Addr) (hcell : w.cell? ad = some x) (hl : (rs.length + 1) * 24 ≤ 140737488355328) (hB : B ≤ w.heap.size) :
    ∃ v' w', (Builtin.append_ #[30, 30] ty #[v, .slice (some ad) 1 1]).run Tryd.prog w = .ok v' w' ∧ Put W w' B v' (rs ++ [(x, l)]) ∧ w.grownBy w' v.ownBlock ∧ (v'.ownBlock = v.ownBlock ∨ v'.ownBlock = some w.heap.size) := by
  obtain ⟨i0, hi0, hz0, hz1, hz2⟩ := info_parts info_row
  obtain ⟨v', w', hr, h1, h2, -, h4⟩ := run_append_own_at (P := Tryd.prog) w B 30 ty 22 i0 _ 1 24 Tryd.underlying30 hi0 hz0 hz1 hz2 rfl (by decide) v rs.length (rs.map (·.1)) h.row ad 1 1 [x] rfl (fun j u hj => by
    match j, hj with
    | 0, hj =>
      injection hj with hj
      subst hj
      rw [show ad.add 0 = ad by unfold Addr.add; split <;> simp_all]
      exact hcell) (fun u hu => by rw [List.mem_singleton.1 hu]; exact hx.one) (by unfold maxLen; omega) hl hB
  refine ⟨v', w', hr, ⟨by rw [List.length_append, List.map_append]; exact h1, fun p hp => ?_⟩, h2, h4⟩
  rcases List.mem_append.1 hp with hp | hp
  · exact h.all p hp
  · rw [List.mem_singleton.1 hp]
    exact hx
theorem apPut {ops : Array Oper} {rest : List Oper} {o : Oper} {a : Act} {Q : Exit → Act → World → Prop} (hgd : o.guard = none) (s y : Operand)
    (ho : o.op = .call { callee := .builtin .append, args := #[s, y], argTypes := #[30, 30] }) (B : Nat) (v : Value) (rs : List (Value × List Int)) (hs : a.eval s = v) (h : Put W w B v rs) (x : Value) (l : List Int) (hx : SlIn W x l) (ad : Addr) (hy : a.eval y = .slice (some ad) 1 1) (hcell : w.cell? ad = some x) (hl : (rs.length + 1) * 24 ≤ 140737488355328) (hB : B ≤ w.heap.size)
    (hk : ∀ v' w', Hid (Put W w' B v' (rs ++ [(x, l)]) ∧ w.grownBy w' v.ownBlock ∧ (v'.ownBlock = v.ownBlock ∨ v'.ownBlock = some w.heap.size)) → wpList Tryd.prog ops Q rest (a.put o.dst v') w') : wpList Tryd.prog ops Q (o :: rest) a w := by
  obtain ⟨v', w', hr, hall⟩ := run_put w o.type B v rs h x l hx ad hcell hl hB
  exact wpList_ap hgd s y _ _ ho _ _ v' w' hs hy hr (hk v' w' (Lib.hid hall))
end
end Go.Proofs.YtophhnolnlbecaaDoor
namespace Go.Proofs.YtophhnolnlbecaaDoor
open Go.RowKit
set_option maxRecDepth 100000

theorem MapIs.rebase {w w' : World} {B B' : Base} {D : DataW Unit} {f : Secs} (h : MapIs w B D f) (hk : ∀ v r, RowAt w B v r → RowAt w' B' v r) : MapIs w' B' D f :=
  ⟨h.tidy, h.keys, fun k r e => by obtain ⟨v, g, n, c, h1, h2⟩ := h.rows k r e; exact ⟨v, g, n, c, hk v r h1, h2⟩, h.none_⟩
section
variable {w w' : World} {B : Base} {g N : Nat} {d : Dk}
/-- Blocks that there are not yet: all rows lie off them. -/
theorem BoxAt.off (h : BoxAt w B g d N) (x : Nat → Prop) (hx : ∀ y, x y → w.heap.size ≤ y) : BoxAt w ⟨B.lo, x⟩ g d N := by
  obtain ⟨k, s, h⟩ := h
  have hr : ∀ v r, RowAt w B v r → RowAt w ⟨B.lo, x⟩ v r := fun v r hr => ⟨hr.1, hr.2.1, fun b hb e => by
    have h1 := (hr.block b hb).choose_spec.2.2
    have h2 := hx b e
    omega⟩
  exact ⟨k, s, { box := h.box, gB := h.gB, sB := h.sB, nB := h.nB, ne := h.ne, mapS := h.mapS, mapN := h.mapN, isS := h.isS.rebase hr, isN := h.isN.rebase hr, wlen := h.wlen, wait := h.wait, rows := fun i p v a b => hr v p.2 (h.rows i p v a b), numS := h.numS, numN := h.numN, many := h.many, acts := h.acts }⟩
/-- Fewer blocks, or newer ones. -/
theorem BoxAt.offs {lo : Nat} {S S' : Nat → Prop} (h : BoxAt w ⟨lo, S⟩ g d N) (hS : ∀ y, S' y → S y ∨ w.heap.size ≤ y) : BoxAt w ⟨lo, S'⟩ g d N := by
  obtain ⟨k, s, h⟩ := h
  have hr : ∀ v r, RowAt w ⟨lo, S⟩ v r → RowAt w ⟨lo, S'⟩ v r := fun v r hr => ⟨hr.1, hr.2.1, fun b hb e => by
    have h1 := (hr.block b hb).choose_spec.2.2
    rcases hS b e with h2 | h2
    · exact hr.2.2 b hb h2
    · omega⟩
  exact ⟨k, s, { box := h.box, gB := h.gB, sB := h.sB, nB := h.nB, ne := h.ne, mapS := h.mapS, mapN := h.mapN, isS := h.isS.rebase hr, isN := h.isN.rebase hr, wlen := h.wlen, wait := h.wait, rows := fun i p v a b => hr v p.2 (h.rows i p v a b), numS := h.numS, numN := h.numN, many := h.many, acts := h.acts }⟩
/-- Such blocks turned. -/
theorem BoxAt.only {lo : Nat} {S S' : Nat → Prop} (h : BoxAt w ⟨lo, S⟩ g d N) (ho : ∀ k, k < w.heap.size → ¬ S k → w'.heap[k]? = w.heap[k]?) (hy : ∀ y, S y → y < w.heap.size → ∃ cur t fr, w.heap[y]? = some (.cells cur t fr) ∧ t ≠ 77 ∧ t ≠ 100) (hS : ∀ y, S' y → S y ∨ w.heap.size ≤ y) : BoxAt w' ⟨lo, S'⟩ g d N := by
  obtain ⟨k, s, h⟩ := h
  have hr : ∀ v r, RowAt w ⟨lo, S⟩ v r → RowAt w' ⟨lo, S'⟩ v r := fun v r hr => by
    have h1 := hr.keep (w' := w') fun b hb => ho b (hr.block b hb).choose_spec.2.2 (fun e => hr.2.2 b hb e)
    exact ⟨h1.1, h1.2.1, fun b hb e => by
      rcases hS b e with h2 | h2
      · exact hr.2.2 b hb h2
      · have := (hr.block b hb).choose_spec.2.2
        omega⟩
  have ng : ¬ S g := fun hs => by
    obtain ⟨cur, t, fr, e, h1, h2⟩ := hy g hs h.lt
    rw [h.box] at e
    injection e with e
    injection e with _ e
    exact h1 e.symm
  have ns : ¬ S s.sb := fun hs => by
    obtain ⟨cur, t, fr, e, h1, h2⟩ := hy _ hs h.sbLt
    obtain ⟨es, c, e2⟩ := h.sbObj
    rw [e2] at e
    injection e with e
    cases e
  have nn : ¬ S s.nb := fun hs => by
    obtain ⟨cur, t, fr, e, h1, h2⟩ := hy _ hs h.nbLt
    obtain ⟨es, c, e2⟩ := h.nbObj
    rw [e2] at e
    injection e with e
    cases e
  have nw : ∀ b, s.wv.ownBlock = some b → ¬ S b := fun b hb hs => by
    obtain ⟨cu, e2, -, hlt⟩ := h.wvObj b hb
    obtain ⟨cur, t, fr, e, h1, h2⟩ := hy b hs hlt
    rw [e2] at e
    injection e with e
    injection e with _ e
    exact h2 e.symm
  exact ⟨k, s, { box := (ho g h.lt ng).trans h.box, gB := h.gB, sB := h.sB, nB := h.nB, ne := h.ne, mapS := owns_keep h.mapS (ho _ h.sbLt ns), mapN := owns_keep h.mapN (ho _ h.nbLt nn), isS := h.isS.rebase hr, isN := h.isN.rebase hr, wlen := h.wlen, wait := row_keepW h.wait fun b hb => ho b (h.wvObj b hb).choose_spec.2.2 (nw b hb), rows := fun i p v a b => hr v p.2 (h.rows i p v a b), numS := h.numS, numN := h.numN, many := h.many, acts := h.acts }⟩
end
end Go.Proofs.YtophhnolnlbecaaDoor
namespace Go.Proofs.YtophhnolnlbecaaDoor
open Go.RowKit
open Go.Maps (Keyed IsMap Tidy)
set_option maxRecDepth 100000

/-- The writes that wait, as they lie. -/
theorem BoxOf.wform {w : World} {B : Base} {g N : Nat} {d : Dk} {s : Spot} (h : BoxOf w B g d N s) : ∃ (a : Option Addr) (c : Nat), s.wv = .slice a d.wait.length c ∧ ∀ (i : Nat) (p : Nat × List Int), d.wait[i]? = some p → ∃ ga v, a = some ⟨ga, 0, none⟩ ∧ s.vs[i]? = some v ∧ RowAt w B v p.2 ∧ ga < w.heap.size ∧ w.cell? ⟨ga, 2 * i, none⟩ = some (.int .i64 (p.1 : Int)) ∧ w.cell? ⟨ga, 2 * i + 1, none⟩ = some v := by
  have h0 := h.wait
  rcases h0.2 with ⟨hv, hz⟩ | ⟨ga, cap, cur, hv, hB, hg, hle, -⟩
  · refine ⟨none, 0, by rw [hv, hz], fun i p hi => ?_⟩
    have := lt_of_get hi
    omega
  · refine ⟨some ⟨ga, 0, none⟩, cap, hv, fun i p hi => ?_⟩
    have hlt := lt_of_get hi
    have hvi : s.vs[i]? = some (s.vs[i]'(by rw [h.wlen]; exact hlt)) := List.getElem?_eq_getElem _
    obtain ⟨e1, e2⟩ := waitC_get _ _ h.wlen i p _ hi hvi
    have hw := h0
    rw [hv] at hw
    refine ⟨ga, _, rfl, hvi, h.rows i p _ hi hvi, lt_of_block hg, ?_, ?_⟩
    · rw [World.ownsRow.cellAt hw (2 * i) (by omega)]; exact e1
    · rw [World.ownsRow.cellAt hw (2 * i + 1) (by omega)]; exact e2
/-- A row put at a place of the map of what is safe. -/
def Dk.lay (d : Dk) (k : Nat) (r : List Int) : Dk := { d with safe := upd d.safe k r }
theorem BoxOf.lay {w w' : World} {B : Base} {g N : Nat} {d : Dk} {s : Spot} (h : BoxOf w B g d N s) (k : Nat) {v : Value} {r : List Int} (hr : RowAt w B v r) {b n c : Nat} (hv : v = .slice (some ⟨b, 0, none⟩) n c)
    (hown : w'.ownsMap Tryd.prog 3 RowR s.sb (s.nS + 1) (s.DS.put (.int .i64 (k : Int)) (encS b n c))) (hg : w.grownBy w' (some s.sb)) :
    BoxOf w' B g (d.lay k r) (N + 1) { s with nS := s.nS + 1, DS := s.DS.put (.int .i64 (k : Int)) (encS b n c) } ∧ Turns TB B.lo w w' := by
  have keep : ∀ v r, RowAt w B v r → RowAt w' B v r := fun v r hx => hx.keep fun b hb => hg.block b (hx.block b hb).choose_spec.2.2 (fun e => (h.rowNe hx b hb).2.1 (by injection e))
  refine ⟨?_, (Turns.refl TB B.lo w).grown hg (fun k e => ?_) (Nat.le_trans h.gB (Nat.le_of_lt h.lt))⟩
  · exact {
      box := (hg.block g h.lt (fun e => h.gsb (by injection e))).trans h.box
      gB := h.gB
      sB := h.sB
      nB := h.nB
      ne := h.ne
      mapS := hown
      mapN := owns_keep h.mapN (hg.block _ h.nbLt (fun e => h.ne (by injection e with e; exact e.symm)))
      isS := (h.isS.put k hr hv).keep keep
      isN := h.isN.keep keep
      wlen := h.wlen
      wait := row_keepW h.wait fun b hb => hg.block b (h.wvObj b hb).choose_spec.2.2 (fun e => (h.wvNe b hb).2.1 (by injection e))
      rows := fun i p v h1 h2 => keep _ _ (h.rows i p v h1 h2)
      numS := by have := h.numS; show s.nS + 1 + d.wait.length ≤ N + 1; omega
      numN := Nat.le_succ_of_le h.numN
      many := h.many
      acts := h.acts }
  · injection e with e
    subst e
    obtain ⟨es, c, e⟩ := h.sbObj
    exact ⟨h.sB, _, e, trivial⟩
/-- Nothing waits any more. -/
theorem BoxOf.emptied {w : World} {B : Base} {g N N' : Nat} {d : Dk} {s : Spot} (h : BoxOf w B g d N s) (hS : s.nS ≤ N') (hN : s.nN ≤ N') : BoxOf (w.setCell ⟨g, 3, none⟩ (.slice none 0 0)) B g { d with wait := [] } N' { s with wv := .slice none 0 0, vs := [] } ∧ Turns TB B.lo w (w.setCell ⟨g, 3, none⟩ (.slice none 0 0)) := by
  have hb : ∀ b, b ≠ g → (w.setCell ⟨g, 3, none⟩ (.slice none 0 0)).heap[b]? = w.heap[b]? := fun b hne => set_off _ _ hne
  have keep : ∀ v r, RowAt w B v r → RowAt (w.setCell ⟨g, 3, none⟩ (.slice none 0 0)) B v r := fun v r hx => hx.keep fun b hb' => hb b (h.rowNe hx b hb').1
  refine ⟨?_, (Turns.refl TB B.lo w).setCell (p := ⟨g, 3, none⟩) h.box (TB_box _ _) h.gB _⟩
  exact {
    box := set_heap (i := 3) h.box _
    gB := h.gB
    sB := h.sB
    nB := h.nB
    ne := h.ne
    mapS := owns_keep h.mapS (hb _ h.gsb.symm)
    mapN := owns_keep h.mapN (hb _ h.gnb.symm)
    isS := h.isS.keep keep
    isN := h.isN.keep keep
    wlen := rfl
    wait := World.ownsRow_nil _ _ _ _
    rows := fun i p v h1 _ => (by simp at h1)
    numS := hS
    numN := hN
    many := h.many
    acts := h.acts }
/-- Made safe so far. -/
def Dk.part (d : Dk) (k : Nat) : Dk := { d with safe := over d.safe (d.wait.take k) }
theorem Dk.part_next (d : Dk) {k : Nat} {p : Nat × List Int} (h : d.wait[k]? = some p) : (d.part k).lay p.1 p.2 = d.part (k + 1) := by
  unfold Dk.lay Dk.part
  have e : d.wait.take (k + 1) = d.wait.take k ++ [p] := by rw [List.take_add_one, h]; rfl
  rw [e, over_snoc]
set_option maxHeartbeats 4000000 in
theorem sync1_any (db h g : Nat) (w : World) (B : Base) (N : Nat) (d : Dk) (hd : w.heap[db]? = some (.cells #[.pointer (some ⟨h, 0, none⟩)] 41)) (hh : w.heap[h]? = some (.cells #[.pointer (some ⟨g, 0, none⟩)] 86)) (hN : N ≤ 1099511627776) (hb : BoxAt w B g d N) :
    Calls Tryd.prog 60 #[.pointer (some ⟨db, 0, none⟩)] w fun e w' => e = .returned (.tuple #[]) ∧ BoxAt w' B g d.settle N ∧ Turns TB B.lo w w' := by
  obtain ⟨hok, s, hb⟩ := hb
  obtain ⟨q0, q1, q2, q3, q4, q5, q6, q7⟩ := boxC_get d s.sb s.nb s.wv
  have c3 := (hb.cells 3).trans q3
  have h0 : w.cell? ⟨h, 0, none⟩ = some (.pointer (some ⟨g, 0, none⟩)) := row_cells hh 0
  have d0 : w.cell? ⟨db, 0, none⟩ = some (.pointer (some ⟨h, 0, none⟩)) := row_cells hd 0
  obtain ⟨a, c, ew, -⟩ := hb.wform
  have hm := hb.many
  have hnw : d.wait.length ≤ 1099511627776 := by have := hb.numS; omega
  have HB := Lib.hid (And.intro hb (And.intro hok (And.intro hd (And.intro hh ew))))
  rw [ew] at c3
  clear q0 q1 q2 q3 q4 q5 q6 q7 hb hok hd hh ew
  go_enter Tryd.func60, Tryd.ntmps60
  go_wp2_with fail
  go_loopw [2, 11] (fun _ i wr => ∃ k : Nat, k ≤ d.wait.length ∧ i = .int .i64 (k : Int) ∧ Hid (∃ s', BoxOf wr B g (d.part k) (N + k) s' ∧ s'.wv = s.wv ∧ s'.vs = s.vs ∧ s'.nS = s.nS + k ∧ s'.nN = s.nN ∧ Turns TB B.lo w wr)) (fun _ i _ => d.wait.length - (intOf i).toNat)
  case atStart => exact ⟨0, by omega, rfl, s, HB.out.1, rfl, rfl, rfl, rfl, Turns.refl _ _ _⟩
  case round =>
    obtain ⟨k, hk, rfl, HK⟩ := hrel
    obtain ⟨s', HK⟩ := HK.out
    have HK := Lib.hid HK
    have HD := Lib.hid (And.intro (HK.out.2.2.2.2.2.block _ _ HB.out.2.2.1 (TB_no (by decide) (by decide) _ _)) (HK.out.2.2.2.2.2.block _ _ HB.out.2.2.2.1 (TB_no (by decide) (by decide) _ _)))
    have d1 : wr.cell? ⟨db, 0, none⟩ = some (.pointer (some ⟨h, 0, none⟩)) := row_cells HD.out.1 0
    have h1 : wr.cell? ⟨h, 0, none⟩ = some (.pointer (some ⟨g, 0, none⟩)) := row_cells HD.out.2 0
    by_cases hlt : k < d.wait.length
    · obtain ⟨p, hp⟩ : ∃ p, d.wait[k]? = some p := ⟨_, List.getElem?_eq_getElem hlt⟩
      obtain ⟨a', c', ew', hel⟩ := HK.out.1.wform
      obtain ⟨ga, v, ea, hvs, hrow, hgl, e1, e2⟩ := hel k p hp
      subst ea
      have ewa : a = some ⟨ga, 0, none⟩ ∧ c = c' := by
        have := ew'.symm.trans (HK.out.2.1.trans HB.out.2.2.2.2)
        injection this with t1 t2 t3
        exact ⟨t1.symm, t3.symm⟩
      obtain ⟨rfl, rfl⟩ := ewa
      obtain ⟨b, n, cv, rfl⟩ := find_row hrow
      have HP := Lib.hid (And.intro hp hrow)
      rw [Nat.mul_comm 2 k] at e1 e2
      have HM := Lib.hid (show s'.nS < maxLen by have := HK.out.1.numS; unfold maxLen; have : (d.part k).wait.length = d.wait.length := rfl; omega)
      have hkm : p.1 < d.many := (HB.out.2.1.rowW p (List.mem_of_getElem? hp)).2
      have HKK := Lib.hid (key_at (k := (p.1 : Int)) (by unfold okInt; omega))
      have h3 := (HK.out.1.cells 1).trans (boxC_get (d.part k) s'.sb s'.nb s'.wv).2.1
      have hgl2 := HK.out.1.lt
      have hdl := lt_of_block HD.out.1
      have hhl := lt_of_block HD.out.2
      clear hel hvs hp hrow ew'
      go_wp2_with fail
      have x0 := heap_alloc_new wr (.cells #[.int .i64 (p.1 : Int), .slice (some ⟨b, 0, none⟩) n cv] 100)
      have XB := Lib.hid (below1 wr (.cells #[.int .i64 (p.1 : Int), .slice (some ⟨b, 0, none⟩) n cv] 100))
      generalize hw1 : wr.alloc (.cells #[.int .i64 (p.1 : Int), .slice (some ⟨b, 0, none⟩) n cv] 100) = w1 at *
      have d1' := (XB.out.cell (p := ⟨db, 0, none⟩) hdl).trans d1
      have h1' := (XB.out.cell (p := ⟨h, 0, none⟩) hhl).trans h1
      have h3' := (XB.out.cell (p := ⟨g, 1, none⟩) hgl2).trans h3
      have x1 : w1.cell? ⟨wr.heap.size, 0, none⟩ = some (.int .i64 (p.1 : Int)) := row_cells x0 0
      have x2 : w1.cell? ⟨wr.heap.size, 1, none⟩ = some (.slice (some ⟨b, 0, none⟩) n cv) := row_cells x0 1
      generalize hgb : wr.heap.size = gb at x1 x2 ⊢
      have HGB := Lib.hid (And.intro hw1 hgb)
      clear hw1 hgb x0 d1 h1 h3 e1 e2
      have HK1 := Lib.hid (HK.out.1.then_ XB.out)
      go_still_tail 11, (by kernel_rfl)
      change wpList _ _ _ _ _ w1.drew
      go_wp2_with (refine wpList_mapUpdate_own _ rfl _ _ _ 74 rfl 3 22 keyK Tryd.underlying74 RowR s'.sb s'.nS s'.DS rfl HK1.out.mapS.drew HM.out _ _ (.int .i64 (p.1 : Int)) rfl rfl HKK.out (encS b n cv) [] (rowR_mk b n cv) ?_; intro w2 hown hgr; have H2 := Lib.hid (HK1.out.lay p.1 (HP.out.2.then_ XB.out) rfl hown ⟨hgr.os, hgr.tape, hgr.output, hgr.size, hgr.block⟩); clear hown hgr)
      go_roundw
      case rel =>
        have h2 := H2.out
        rw [Dk.part_next d HP.out.1] at h2
        exact ⟨k + 1, by omega, by go_num, _, h2.1, HK.out.2.1, HK.out.2.2.1, by show s'.nS + 1 = _; rw [HK.out.2.2.2.1]; omega, HK.out.2.2.2.2.1, (HK.out.2.2.2.2.2.trans (Turns.of_below (Nat.le_trans HK.out.1.gB (Nat.le_of_lt HK.out.1.lt)) XB.out)).trans h2.2⟩
      case measure => simp [intOf]; omega
    · have hkn : k = d.wait.length := by omega
      subst hkn
      have c3' := (HK.out.1.cells 3).trans (boxC_get (d.part d.wait.length) s'.sb s'.nb s'.wv).2.2.2.1
      have f3' := HK.out.1.frozen 3
      have glt' := HK.out.1.lt
      go_wp2_with fail
      have hw := HK.out.1.emptied (N' := N) (by have := HB.out.1.numS; rw [HK.out.2.2.2.1]; exact this) (by rw [HK.out.2.2.2.2.1]; exact HB.out.1.numN)
      have e : ({ d.part d.wait.length with wait := [] } : Dk) = d.settle := by unfold Dk.part Dk.settle; rw [List.take_of_length_le (Nat.le_refl _)]
      rw [e] at hw
      exact ⟨rfl, .tuple #[], results_void rfl _ _, rfl, ⟨Dk.settle_ok HB.out.2.1, _, hw.1⟩, HK.out.2.2.2.2.2.trans hw.2⟩
end Go.Proofs.YtophhnolnlbecaaDoor
