/- The document's own disk, as it lies. The document's own disk: New, Arm. The document's own disk: Arm. The document's own disk: an act. The document's own disk: the writes but those of a sector. The document's own disk: a sector laid. The document's own disk: a sector laid over what is safe. The document's own disk: another row of writes waits. The document's own disk: Plant. No statement is proved here. -/
import Derived.Test.YtonjapphhbhcpaaDoorDBlkP
namespace Go.Proofs.YtonjapphhbhcpaaDoor
open Go.RowKit
set_option maxRecDepth 100000

def refC (d : Dk) (sv wv : Value) : Array Value := #[.int .i64 (d.many : Int), sv, wv, .bool d.armed, .int .i64 (d.acts : Int), .bool d.done, .bool d.down]
structure RSpot where
  sv : Value
  wv : Value
  ls : List (Nat × List Int)
  us : List Value
  vs : List Value
/-- The document's disk lies there: its struct at g, its rows from block B on; N bounds how much was ever done. -/
structure RefOf (w : World) (B g : Nat) (d : Dk) (N : Nat) (s : RSpot) : Prop where
  box : w.heap[g]? = some (.cells (refC d s.sv s.wv) 83)
  gB : B ≤ g
  safeR : w.ownsRow B 88 2 s.sv s.ls.length (waitC s.ls s.us)
  waitR : w.ownsRow B 88 2 s.wv d.wait.length (waitC d.wait s.vs)
  ne : ∀ b, s.sv.ownBlock = some b → s.wv.ownBlock ≠ some b
  ulen : s.us.length = s.ls.length
  vlen : s.vs.length = d.wait.length
  isS : d.safe = over noSecs s.ls
  keys : (s.ls.map (·.1)).Nodup
  rowsS : ∀ (i : Nat) (p : Nat × List Int) (v : Value), s.ls[i]? = some p → s.us[i]? = some v → RowAt w B v p.2
  rowsW : ∀ (i : Nat) (p : Nat × List Int) (v : Value), d.wait[i]? = some p → s.vs[i]? = some v → RowAt w B v p.2
  num : s.ls.length + d.wait.length ≤ N
  many : d.many ≤ 9223372036854775807
  acts : d.acts ≤ 9223372036854775807
def RefAt (w : World) (B g : Nat) (d : Dk) (N : Nat) : Prop := d.ok ∧ ∃ s, RefOf w B g d N s
/-- What the document's disk is made of. -/
def TR : Obj → Prop
  | .cells _ t _ => t = 83 ∨ t = 88
  | _ => False
theorem TR_byte (cur : Array Value) (fr : Nat × Nat) : ¬ TR (.cells cur 5 fr) := by
  show ¬ ((5 : Nat) = 83 ∨ (5 : Nat) = 88)
  decide
theorem TR_disk (cur : Array Value) (fr : Nat × Nat) : TR (.cells cur 83 fr) := .inl rfl
theorem TR_sector (cur : Array Value) (fr : Nat × Nat) : TR (.cells cur 88 fr) := .inr rfl
theorem TB_disk (cur : Array Value) (fr : Nat × Nat) : ¬ TB (.cells cur 83 fr) := TB_no (by decide) (by decide) _ _
theorem TB_sector (cur : Array Value) (fr : Nat × Nat) : ¬ TB (.cells cur 88 fr) := TB_no (by decide) (by decide) _ _
section
variable {w w' : World} {B B' g N : Nat} {d : Dk}
theorem row_keepS {t : TypeId} {n : Nat} {v : Value} {xs : List Value} (h : w.ownsRow B t 2 v n xs) (hb : ∀ g, v.ownBlock = some g → w'.heap[g]? = w.heap[g]?) : w'.ownsRow B t 2 v n xs := by
  obtain ⟨h1, h2⟩ := h
  refine ⟨h1, ?_⟩
  rcases h2 with h2 | ⟨g, cap, cur, hv, hB, hg, hrest⟩
  · exact .inl h2
  · refine .inr ⟨g, cap, cur, hv, hB, ?_, hrest⟩
    rw [hb g (by rw [hv]; rfl)]
    exact hg
theorem rowS_obj {t : TypeId} {n : Nat} {v : Value} {xs : List Value} (h : w.ownsRow B t 2 v n xs) : ∀ b, v.ownBlock = some b → ∃ cur, w.heap[b]? = some (.cells cur t) ∧ B ≤ b ∧ b < w.heap.size := by
  obtain ⟨h1, h2⟩ := h
  rcases h2 with ⟨hv, -⟩ | ⟨g', cap, cur, hv, hB, hg, -⟩
  · intro b hb; rw [hv] at hb; cases hb
  · intro b hb
    rw [hv] at hb
    injection hb with hb
    subst hb
    exact ⟨cur, hg, hB, lt_of_block hg⟩
theorem row_turns {T : Obj → Prop} {t : TypeId} {n : Nat} {v : Value} {xs : List Value} (h : w.ownsRow B t 2 v n xs) (ht : Turns T B' w w') (hn : ∀ cur, ¬ T (.cells cur t)) : w'.ownsRow B t 2 v n xs :=
  row_keepS h fun b hb => by
    obtain ⟨cur, h1, -, -⟩ := rowS_obj h b hb
    exact (ht.block b _ h1 (hn cur)).trans h1.symm
/-- Where nothing of it has turned, it is the same disk. -/
theorem RefOf.turns {s : RSpot} {T : Obj → Prop} (h : RefOf w B g d N s) (ht : Turns T B' w w') (h1 : ∀ cur, ¬ T (.cells cur 83)) (h2 : ∀ cur, ¬ T (.cells cur 88)) (h3 : ∀ cur, ¬ T (.cells cur 5)) : RefOf w' B g d N s :=
  { h with
    box := ht.block _ _ h.box (h1 _)
    safeR := row_turns h.safeR ht h2
    waitR := row_turns h.waitR ht h2
    rowsS := fun i p v a b => (h.rowsS i p v a b).turns ht h3
    rowsW := fun i p v a b => (h.rowsW i p v a b).turns ht h3 }
theorem RefAt.turns {T : Obj → Prop} (h : RefAt w B g d N) (ht : Turns T B' w w') (h1 : ∀ cur, ¬ T (.cells cur 83)) (h2 : ∀ cur, ¬ T (.cells cur 88)) (h3 : ∀ cur, ¬ T (.cells cur 5)) : RefAt w' B g d N := by
  obtain ⟨k, s, h⟩ := h
  exact ⟨k, s, h.turns ht h1 h2 h3⟩
theorem RefAt.turnsB (h : RefAt w B g d N) (ht : Turns TB B' w w') : RefAt w' B g d N := h.turns ht (fun _ => TB_disk _ _) (fun _ => TB_sector _ _) (fun _ => TB_byte _ _)
theorem RefAt.then_ (h : RefAt w B g d N) (hb : Below w.heap.size w w') : RefAt w' B g d N :=
  h.turns (T := fun _ => False) (B' := 0) (Turns.of_below (Nat.zero_le _) hb) (fun _ h => h) (fun _ h => h) (fun _ h => h)
/-- Package block's disk stays where the document's turns. -/
theorem BoxAt.turnsR (h : BoxAt w B g d N) (ht : Turns TR B' w w') : BoxAt w' B g d N := by
  obtain ⟨k, s, h⟩ := h
  have nb : ∀ cur, ¬ TR (.cells cur 78) := fun cur => by
    show ¬ ((78 : Nat) = 83 ∨ (78 : Nat) = 88)
    decide
  have nw : ∀ cur, ¬ TR (.cells cur 95) := fun cur => by
    show ¬ ((95 : Nat) = 83 ∨ (95 : Nat) = 88)
    decide
  refine ⟨k, s, { h with
    box := ht.block _ _ h.box (nb _)
    mapS := ?_
    mapN := ?_
    isS := h.isS.keep fun v r hr => hr.turns ht fun _ => TR_byte _ _
    isN := h.isN.keep fun v r hr => hr.turns ht fun _ => TR_byte _ _
    wait := row_turns h.wait ht nw
    rows := fun i p v a b => (h.rows i p v a b).turns ht fun _ => TR_byte _ _ }⟩
  · obtain ⟨es, c, e⟩ := h.sbObj
    exact owns_keep h.mapS ((ht.block _ _ e (fun x => x)).trans e.symm)
  · obtain ⟨es, c, e⟩ := h.nbObj
    exact owns_keep h.mapN ((ht.block _ _ e (fun x => x)).trans e.symm)
end
end Go.Proofs.YtonjapphhbhcpaaDoor
namespace Go.Proofs.YtonjapphhbhcpaaDoor
open Go.RowKit
set_option maxRecDepth 100000

theorem rnew_any (n : Nat) (hn : n ≤ 9223372036854775807) (w : World) : Calls Tryd.prog 20 #[.int .i64 (n : Int)] w fun e w' => ∃ g, e = .returned (.pointer (some ⟨g, 0, none⟩)) ∧ RefAt w' w.heap.size g (Dk.new n) 0 ∧ Below w.heap.size w w' := by
  have hm : ¬ ((n : Int) < 0) := by omega
  go_enter Tryd.func20, Tryd.ntmps20
  go_wp2
  go_ret
  refine ⟨_, rfl, ⟨Dk.new_ok n, ⟨.slice none 0 0, .slice none 0 0, [], [], []⟩, ?_⟩, below1 _ _⟩
  exact {
    box := heap_alloc_new _ _
    gB := Nat.le_refl _
    safeR := World.ownsRow_nil _ _ _ _
    waitR := World.ownsRow_nil _ _ _ _
    ne := fun b h => by cases h
    ulen := rfl
    vlen := rfl
    isS := rfl
    keys := List.nodup_nil
    rowsS := fun i p v h _ => (by simp at h)
    rowsW := fun i p v h _ => (by simp [Dk.new] at h)
    num := Nat.le_refl _
    many := hn
    acts := Nat.zero_le _ }
theorem refC_get (d : Dk) (sv wv : Value) : (refC d sv wv)[0]? = some (.int .i64 (d.many : Int)) ∧ (refC d sv wv)[1]? = some sv ∧ (refC d sv wv)[2]? = some wv ∧ (refC d sv wv)[3]? = some (.bool d.armed) ∧ (refC d sv wv)[4]? = some (.int .i64 (d.acts : Int)) ∧ (refC d sv wv)[5]? = some (.bool d.done) ∧ (refC d sv wv)[6]? = some (.bool d.down) := ⟨rfl, rfl, rfl, rfl, rfl, rfl, rfl⟩
section
variable {w w' : World} {B g N : Nat} {d d' : Dk} {s : RSpot}
theorem RefOf.lt (h : RefOf w B g d N s) : g < w.heap.size := lt_of_block h.box
theorem RefOf.cells (h : RefOf w B g d N s) (i : Nat) : w.cell? ⟨g, i, none⟩ = (refC d s.sv s.wv)[i]? := row_cells h.box i
theorem RefOf.frozen (h : RefOf w B g d N s) (i : Nat) : w.frozen? ⟨g, i, none⟩ = false := by simp [World.frozen?, h.box]
theorem disk_not_sector : (83 : Nat) ≠ 88 := by decide
theorem disk_not_byte : (83 : Nat) ≠ 5 := by decide
theorem row_off {v : Value} {n : Nat} {xs : List Value} (h : RefOf w B g d N s) (hr : w.ownsRow B 88 2 v n xs) : ∀ b, v.ownBlock = some b → b ≠ g := by
  rintro b hb rfl
  obtain ⟨cur, e, -, -⟩ := rowS_obj hr b hb
  rw [h.box] at e
  injection e with e
  injection e with _ e
  exact disk_not_sector e
theorem byte_off {v : Value} {r : List Int} (h : RefOf w B g d N s) (hr : RowAt w B v r) : ∀ b, v.ownBlock = some b → b ≠ g := by
  rintro b hb rfl
  obtain ⟨cur, e, -, -⟩ := hr.block b hb
  rw [h.box] at e
  injection e with e
  injection e with _ e
  exact disk_not_byte e
/-- The struct's own cells turn: the rows stay. -/
theorem RefOf.turn (h : RefOf w B g d N s) (hb : ∀ b, b < w.heap.size → b ≠ g → w'.heap[b]? = w.heap[b]?) (hg : w'.heap[g]? = some (.cells (refC d' s.sv s.wv) 83))
    (e1 : d'.safe = d.safe) (e3 : d'.wait = d.wait) (e4 : d'.many = d.many) (ha : d'.acts ≤ 9223372036854775807) : RefOf w' B g d' N s where
  box := hg
  gB := h.gB
  safeR := row_keepS h.safeR fun b hb' => hb b (rowS_obj h.safeR b hb').choose_spec.2.2 (row_off h h.safeR b hb')
  waitR := by rw [e3]; exact row_keepS h.waitR fun b hb' => hb b (rowS_obj h.waitR b hb').choose_spec.2.2 (row_off h h.waitR b hb')
  ne := h.ne
  ulen := h.ulen
  vlen := by rw [e3]; exact h.vlen
  isS := by rw [e1]; exact h.isS
  keys := h.keys
  rowsS := fun i p v a b => (h.rowsS i p v a b).keep fun x hx => hb x ((h.rowsS i p v a b).block x hx).choose_spec.2.2 (byte_off h (h.rowsS i p v a b) x hx)
  rowsW := fun i p v a b => by
    rw [e3] at a
    exact (h.rowsW i p v a b).keep fun x hx => hb x ((h.rowsW i p v a b).block x hx).choose_spec.2.2 (byte_off h (h.rowsW i p v a b) x hx)
  num := by rw [e3]; exact h.num
  many := by rw [e4]; exact h.many
  acts := ha
end
end Go.Proofs.YtonjapphhbhcpaaDoor
namespace Go.Proofs.YtonjapphhbhcpaaDoor
open Go.RowKit
set_option maxRecDepth 100000

theorem rarm_end {w : World} {B g N : Nat} {d : Dk} {s : RSpot} (hok : d.ok) (h : RefOf w B g d N s) (n : Int) (b : Bool) (hn : -9223372036854775808 ≤ n ∧ n ≤ 9223372036854775807) {m : Int} (hm : m = (n.toNat : Nat)) :
    RefAt (((w.setCell ⟨g, 3, none⟩ (.bool true)).setCell ⟨g, 4, none⟩ (.int .i64 m)).setCell ⟨g, 5, none⟩ (.bool b)) B g (d.arm n b) N ∧ Turns TR B w (((w.setCell ⟨g, 3, none⟩ (.bool true)).setCell ⟨g, 4, none⟩ (.int .i64 m)).setCell ⟨g, 5, none⟩ (.bool b)) := by
  subst hm
  have h1 := set_heap (i := 3) h.box (.bool true)
  have h2 := set_heap (i := 4) h1 (.int .i64 ((n.toNat : Nat) : Int))
  have h3 := set_heap (i := 5) h2 (.bool b)
  refine ⟨⟨Dk.arm_ok hok n b, s, ?_⟩, ?_⟩
  · refine h.turn (d' := d.arm n b) (fun b' hb' hne => ?_) h3 rfl rfl rfl (by show n.toNat ≤ _; omega)
    rw [set_off _ _ hne, set_off _ _ hne, set_off _ _ hne]
  · exact (((Turns.refl TR B w).setCell (p := ⟨g, 3, none⟩) h.box (TR_disk _ _) h.gB (.bool true)).setCell (p := ⟨g, 4, none⟩) h1 (TR_disk _ _) h.gB (.int .i64 ((n.toNat : Nat) : Int))).setCell (p := ⟨g, 5, none⟩) h2 (TR_disk _ _) h.gB (.bool b)
set_option maxHeartbeats 4000000 in
theorem rarm_any (g : Nat) (n : Int) (b : Bool) (w : World) (B N : Nat) (d : Dk) (hn : okInt n) (hb : RefAt w B g d N) :
    Calls Tryd.prog 45 #[.pointer (some ⟨g, 0, none⟩), .int .i64 n, .bool b] w fun e w' => e = .returned (.tuple #[]) ∧ RefAt w' B g (d.arm n b) N ∧ Turns TR B w w' := by
  obtain ⟨hok, s, hb⟩ := hb
  obtain ⟨q0, q1, q2, q3, q4, q5, q6⟩ := refC_get d s.sv s.wv
  have c3 := (hb.cells 3).trans q3
  have c4 := (hb.cells 4).trans q4
  have c5 := (hb.cells 5).trans q5
  have f3 := hb.frozen 3
  have f4 := hb.frozen 4
  have f5 := hb.frozen 5
  clear q0 q1 q2 q3 q4 q5 q6
  unfold okInt at hn
  have HB := Lib.hid hb
  clear hb
  by_cases h0 : n < 0
  · go_enter Tryd.func45, Tryd.ntmps45
    go_wp2_with fail
    exact ⟨rfl, .tuple #[], results_void rfl _ _, rfl, (rarm_end hok HB.out n b hn (by omega)).1, (rarm_end hok HB.out n b hn (by omega)).2⟩
  · go_enter Tryd.func45, Tryd.ntmps45
    go_wp2_with fail
    exact ⟨rfl, .tuple #[], results_void rfl _ _, rfl, (rarm_end hok HB.out n b hn (by omega)).1, (rarm_end hok HB.out n b hn (by omega)).2⟩
end Go.Proofs.YtonjapphhbhcpaaDoor
namespace Go.Proofs.YtonjapphhbhcpaaDoor
open Go.RowKit
set_option maxRecDepth 100000

theorem RefOf.cell {w : World} {B g N : Nat} {d d' : Dk} {s : RSpot} (hok' : d'.ok) (h : RefOf w B g d N s) (i : Nat) (u : Value) (e : (refC d s.sv s.wv).setIfInBounds i u = refC d' s.sv s.wv)
    (e1 : d'.safe = d.safe) (e3 : d'.wait = d.wait) (e4 : d'.many = d.many) (ha : d'.acts ≤ 9223372036854775807) : RefAt (w.setCell ⟨g, i, none⟩ u) B g d' N ∧ Turns TR B w (w.setCell ⟨g, i, none⟩ u) := by
  have h1 := set_heap (i := i) h.box u
  rw [e] at h1
  exact ⟨⟨hok', s, h.turn (fun b' hb' hne => set_off _ _ hne) h1 e1 e3 e4 ha⟩, (Turns.refl TR B w).setCell (p := ⟨g, i, none⟩) h.box (TR_disk _ _) h.gB u⟩
set_option maxHeartbeats 4000000 in
theorem ract_any (g : Nat) (w : World) (B N : Nat) (d : Dk) (hb : RefAt w B g d N) :
    Calls Tryd.prog 84 #[.pointer (some ⟨g, 0, none⟩)] w fun e w' => e = .returned (.tuple #[.bool d.does, .bool d.goes]) ∧ RefAt w' B g d.acted N ∧ Turns TR B w w' := by
  obtain ⟨hok, s, hb⟩ := hb
  obtain ⟨q0, q1, q2, q3, q4, q5, q6⟩ := refC_get d s.sv s.wv
  have c3 := (hb.cells 3).trans q3
  have c4 := (hb.cells 4).trans q4
  have c5 := (hb.cells 5).trans q5
  have c6 := (hb.cells 6).trans q6
  have f4 := hb.frozen 4
  have f6 := hb.frozen 6
  have hac := hb.acts
  have hokA := Dk.acted_ok hok
  clear q0 q1 q2 q3 q4 q5 q6
  have HB := Lib.hid hb
  clear hb
  cases ha : d.armed
  · have hg : d.goes = false := by unfold Dk.goes; rw [ha]; rfl
    have HX : Hid (RefAt w B g d.acted N ∧ d.does = true ∧ d.goes = false) := Lib.hid ⟨by
      have e : d.acted = d := by unfold Dk.acted; rw [hg, ha]; rfl
      rw [e]; exact ⟨hok, s, HB.out⟩, by unfold Dk.does; rw [hg]; rfl, hg⟩
    rw [ha] at c3
    rw [HX.out.2.1, HX.out.2.2]
    clear ha hg
    go_enter Tryd.func84, Tryd.ntmps84
    go_wp2_with fail
    go_ret2
    exact ⟨rfl, HX.out.1, Turns.refl _ _ _⟩
  · rw [ha] at c3
    by_cases hz : d.acts = 0
    · have hg : d.goes = true := by unfold Dk.goes; rw [ha, hz]; rfl
      have e : d.acted = { d with down := true } := by unfold Dk.acted; rw [hg]; rfl
      have HX := Lib.hid (HB.out.cell (d' := d.acted) hokA 6 (.bool true) (by rw [e]; rfl) (by rw [e]) (by rw [e]) (by rw [e]) (by rw [e]; exact hac))
      have HD : Hid (d.does = d.done ∧ d.goes = true) := Lib.hid ⟨by unfold Dk.does; rw [hg]; rfl, hg⟩
      rw [HD.out.1, HD.out.2]
      rw [hz] at c4
      clear ha hg e hz
      go_enter Tryd.func84, Tryd.ntmps84
      go_wp2_with fail
      go_ret2
      exact ⟨rfl, HX.out⟩
    · have hg : d.goes = false := by unfold Dk.goes; rw [ha]; simp [hz]
      have e : d.acted = { d with acts := d.acts - 1 } := by unfold Dk.acted; rw [hg, ha]; rfl
      have e2 : ((d.acts - 1 : Nat) : Int) = (d.acts : Int) - 1 := by omega
      have HX := Lib.hid (HB.out.cell (d' := d.acted) hokA 4 (.int .i64 ((d.acts : Int) - 1)) (by rw [e, ← e2]; rfl) (by rw [e]) (by rw [e]) (by rw [e]) (by rw [e]; show d.acts - 1 ≤ _; omega))
      have HD : Hid (d.does = true ∧ d.goes = false) := Lib.hid ⟨by unfold Dk.does; rw [hg]; rfl, hg⟩
      rw [HD.out.1, HD.out.2]
      have hq : (((d.acts : Int)) == 0) = false := by simp; omega
      have hp : 1 ≤ d.acts := by omega
      clear ha hg e hz e2
      go_enter Tryd.func84, Tryd.ntmps84
      go_wp2_with fail
      go_ret2
      exact ⟨rfl, HX.out⟩
end Go.Proofs.YtonjapphhbhcpaaDoor
namespace Go.Proofs.YtonjapphhbhcpaaDoor
open Go.RowKit
set_option maxRecDepth 100000

/-- Sectors as they lie in a row that is read. -/
def SecsIn (w : World) (B : Nat) (a : Option Addr) (l : List (Nat × List Int)) : Prop := ∀ (i : Nat) (p : Nat × List Int), l[i]? = some p → ∃ ga v, a = some (⟨ga, 0, none⟩ : Addr) ∧ RowAt w B v p.2 ∧ ga < w.heap.size ∧ w.cell? ⟨ga, 2 * i, none⟩ = some (.int .i64 (p.1 : Int)) ∧ w.cell? ⟨ga, 2 * i + 1, none⟩ = some v
/-- Sectors in a row of a call's own. -/
def SecsOwn (w : World) (B0 B : Nat) (v : Value) (l : List (Nat × List Int)) : Prop := ∃ vs, w.ownsRow B0 88 2 v l.length (waitC l vs) ∧ vs.length = l.length ∧ ∀ (i : Nat) (p : Nat × List Int) (u : Value), l[i]? = some p → vs[i]? = some u → RowAt w B u p.2
theorem info_sector : (Tryd.prog.info? 88).map (fun i => (i.zero, i.size, i.bytes)) = some (some (.agg #[.int .i64 0, .slice none 0 0]), 2, 32) := by kernel_rfl
theorem rowS_form {w : World} {B n : Nat} {t : TypeId} {v : Value} {xs : List Value} (h : w.ownsRow B t 2 v n xs) : ∃ a c, v = .slice a n c := by
  obtain ⟨h1, h2⟩ := h
  rcases h2 with ⟨hv, hz⟩ | ⟨g, cap, cur, hv, hb, hrest⟩
  · exact ⟨none, 0, by rw [hv, hz]⟩
  · exact ⟨_, cap, hv⟩
set_option maxHeartbeats 4000000 in
theorem rwithout_any (k : Nat) (a : Option Addr) (n c : Nat) (l : List (Nat × List Int)) (w : World) (B : Nat) (hk : k ≤ 9223372036854775807) (hin : SecsIn w B a l) (hn : l.length = n) (hm : n ≤ 1099511627776) :
    Calls Tryd.prog 69 #[.slice a n c, .int .i64 (k : Int)] w fun e w' => ∃ v, e = .returned v ∧ SecsOwn w' w.heap.size B v (but l k) ∧ Below w.heap.size w w' := by
  obtain ⟨i0, hi0, hz0, hz1, hz2⟩ := info_parts info_sector
  have I0 := Lib.hid (And.intro hi0 (And.intro hz0 (And.intro hz1 hz2)))
  have HI := Lib.hid hin
  subst hn
  clear hi0 hz0 hz1 hz2 hin
  go_enter Tryd.func69, Tryd.ntmps69
  go_wp2_with fail
  go_loopw [5, 6] (fun lv i wr => ∃ (j : Nat) (vs : List Value), j ≤ l.length ∧ i = .int .i64 (j : Int) ∧ Hid (wr.ownsRow w.heap.size 88 2 lv (but (l.take j) k).length (waitC (but (l.take j) k) vs) ∧ vs.length = (but (l.take j) k).length ∧ (∀ (x : Nat) (p : Nat × List Int) (u : Value), (but (l.take j) k)[x]? = some p → vs[x]? = some u → RowAt w B u p.2) ∧ Below w.heap.size w wr)) (fun _ i _ => l.length - (intOf i).toNat)
  case atStart => exact ⟨0, [], by omega, rfl, World.ownsRow_nil _ _ _ _, rfl, fun x p u e => (by simp [but] at e), Below.refl _ _⟩
  case round =>
    obtain ⟨j, vs, hj, rfl, HK⟩ := hrel
    replace HK := Lib.hid HK
    by_cases hlt : j < l.length
    · obtain ⟨p, hp⟩ : ∃ p, l[j]? = some p := ⟨_, List.getElem?_eq_getElem hlt⟩
      obtain ⟨ga, v, ea, hrow, hgl, e1, e2⟩ := HI.out j p hp
      subst ea
      obtain ⟨b, m, cv, rfl⟩ := find_row hrow
      have HP := Lib.hid (And.intro hp hrow)
      rw [Nat.mul_comm 2 j] at e1 e2
      have z1 := (HK.out.2.2.2.cell (p := ⟨ga, j * 2, none⟩) hgl).trans e1
      have z2 := (HK.out.2.2.2.cell (p := ⟨ga, j * 2 + 1, none⟩) hgl).trans e2
      have htk : l.take (j + 1) = l.take j ++ [p] := by rw [List.take_add_one, hp]; rfl
      have HT := Lib.hid htk
      clear hp hrow e1 e2 htk
      by_cases he : p.1 = k
      · have q : ((p.1 : Int) != (k : Int)) = false := by simp [he]
        have HBt := Lib.hid (show but (l.take (j + 1)) k = but (l.take j) k by rw [HT.out]; unfold but; rw [List.filter_append]; simp [he])
        clear he
        go_wp2_with fail
        go_roundw
        case rel => exact ⟨j + 1, vs, by omega, by go_num, by rw [HBt.out]; exact HK.out⟩
        case measure => simp [intOf]; omega
      · have q : ((p.1 : Int) != (k : Int)) = true := by simp; omega
        have HBt := Lib.hid (show but (l.take (j + 1)) k = but (l.take j) k ++ [p] by rw [HT.out]; unfold but; rw [List.filter_append]; simp [he])
        clear he
        have hbl : (but (l.take j) k).length ≤ 1099511627776 := by
          have h1 := but_len (l.take j) k
          have h3 : (l.take j).length ≤ l.length := by rw [List.length_take]; omega
          omega
        go_wp2_with (show wpList _ _ _ (⟨some 26, _, _, _, _, _⟩ :: _) _ _; go_loud (refine wpList_append_own_at _ rfl (.tmp 20) (.tmp 25) 81 rfl w.heap.size 88 i0 _ 2 32 Tryd.underlying81 I0.out.1 I0.out.2.1 I0.out.2.2.1 I0.out.2.2.2 rfl (by decide) _ (but (l.take j) k).length _ rfl (World.ownsRow.alloc HK.out.1 _) ⟨wr.heap.size, 0, none⟩ 1 1 [.int .i64 (p.1 : Int), .slice (some ⟨b, 0, none⟩) m cv] rfl rfl (fun j u hu => news_at wr #[.int .i64 (p.1 : Int), .slice (some ⟨b, 0, none⟩) m cv] 88 _ rfl j u hu) (by intro u hu; simp at hu; rcases hu with rfl | rfl <;> rfl) (by unfold maxLen; omega) (by omega) ((HK.out.2.2.2.alloc HK.out.2.2.2.size _).size) ?_; intro v7 w7 own7 grow7 _ _; have G7 := Lib.hid (And.intro own7 ((HK.out.2.2.2.alloc HK.out.2.2.2.size _).grown grow7 (HK.out.2.2.2.alloc HK.out.2.2.2.size _).size (fun x e => (rowS_obj HK.out.1 x e).choose_spec.2.1))); clear own7 grow7))
        refine ⟨⟨j + 1, vs ++ [.slice (some ⟨b, 0, none⟩) m cv], by omega, by go_num, ?_⟩, by simp [intOf]; omega⟩
        rw [HBt.out]
        refine ⟨?_, by rw [List.length_append, List.length_append, HK.out.2.1]; rfl, fun x p' u h1 h2 => ?_, G7.out.2⟩
        · rw [List.length_append, List.length_singleton, waitC_snoc _ _ HK.out.2.1]
          exact G7.out.1
        · by_cases hx : x < (but (l.take j) k).length
          · rw [List.getElem?_append_left hx] at h1
            rw [List.getElem?_append_left (by rw [HK.out.2.1]; exact hx)] at h2
            exact HK.out.2.2.1 x p' u h1 h2
          · have hx2 := lt_of_get h1
            rw [List.length_append, List.length_singleton] at hx2
            have e : x = (but (l.take j) k).length := by omega
            rw [e, List.getElem?_append_right (Nat.le_refl _), Nat.sub_self] at h1
            rw [e, ← HK.out.2.1, List.getElem?_append_right (Nat.le_refl _), Nat.sub_self] at h2
            injection h1 with h1
            injection h2 with h2
            subst h1 h2
            exact HP.out.2
    · have hjn : j = l.length := by omega
      subst hjn
      have HX := Lib.hid HK.out
      rw [List.take_of_length_le (Nat.le_refl _)] at HX
      go_wp2_with fail
      go_ret
      exact ⟨_, rfl, ⟨vs, HX.out.1, HX.out.2.1, fun i p u h1 h2 => (HX.out.2.2.1 i p u h1 h2).then_ HX.out.2.2.2⟩, HX.out.2.2.2⟩
end Go.Proofs.YtonjapphhbhcpaaDoor
namespace Go.Proofs.YtonjapphhbhcpaaDoor
open Go.RowKit
set_option maxRecDepth 100000

theorem laidL_set : ∀ (ls : List (Nat × List Int)) (p : Nat × List Int) (i : Nat) (q : Nat × List Int), (∀ (j : Nat) (x : Nat × List Int), j < i → ls[j]? = some x → x.1 ≠ p.1) → ls[i]? = some q → q.1 = p.1 → laidL ls p = ls.set i p
  | [], p, i, q, h, hq, e => by simp at hq
  | x :: ls, p, 0, q, h, hq, e => by
    simp at hq
    subst hq
    rw [laidL, if_pos e]
    rfl
  | x :: ls, p, i + 1, q, h, hq, e => by
    rw [laidL, if_neg (h 0 x (by omega) rfl), laidL_set ls p i q (fun j y hj hy => h (j + 1) y (by omega) (by simpa using hy)) (by simpa using hq) e]
    rfl
theorem laidL_end : ∀ (ls : List (Nat × List Int)) (p : Nat × List Int), (∀ (j : Nat) (x : Nat × List Int), ls[j]? = some x → x.1 ≠ p.1) → laidL ls p = ls ++ [p]
  | [], p, h => rfl
  | x :: ls, p, h => by
    rw [laidL, if_neg (h 0 x rfl), laidL_end ls p (fun j y hy => h (j + 1) y (by simpa using hy))]
    rfl
theorem waitC_set : ∀ (ls : List (Nat × List Int)) (us : List Value), us.length = ls.length → ∀ (i : Nat) (p : Nat × List Int) (v : Value), waitC (ls.set i p) (us.set i v) = ((waitC ls us).set (2 * i) (.int .i64 (p.1 : Int))).set (2 * i + 1) v
  | [], [], _, i, p, v => by simp [waitC]
  | [], _ :: _, h, _, _, _ => by cases h
  | _ :: _, [], h, _, _, _ => by cases h
  | q :: ls, u :: us, h, 0, p, v => rfl
  | q :: ls, u :: us, h, i + 1, p, v => by
    have ih := waitC_set ls us (by simpa using h) i p v
    show (.int .i64 (q.1 : Int)) :: u :: waitC (ls.set i p) (us.set i v) = _
    rw [ih, show 2 * (i + 1) = 2 * i + 1 + 1 by omega, show 2 * i + 1 + 1 + 1 = (2 * i + 1) + 1 + 1 by omega]
    rfl
theorem grown_of {w w' : World} (h : Below w.heap.size w w') (row : Option Nat) : w.grownBy w' row := ⟨h.os, h.tape, h.output, h.size, fun k hk _ => h.block k hk⟩
theorem set_rows {ls : List (Nat × List Int)} {us : List Value} {j : Nat} {p0 : Nat × List Int} {v0 : Value} (i : Nat) (p : Nat × List Int) (u : Value) (h1 : (ls.set j p0)[i]? = some p) (h2 : (us.set j v0)[i]? = some u) : (p = p0 ∧ u = v0) ∨ (ls[i]? = some p ∧ us[i]? = some u) := by
  by_cases e : j = i
  · subst e
    have l1 := lt_of_get h1
    have l2 := lt_of_get h2
    rw [List.length_set] at l1 l2
    rw [List.getElem?_set_self l1] at h1
    rw [List.getElem?_set_self l2] at h2
    injection h1 with h1
    injection h2 with h2
    exact .inl ⟨h1.symm, h2.symm⟩
  · rw [List.getElem?_set_ne e] at h1 h2
    exact .inr ⟨h1, h2⟩
set_option maxHeartbeats 4000000 in
theorem rlaid_any (k : Nat) (r : List Int) (b m cv : Nat) (a : Option Addr) (n c : Nat) (ls : List (Nat × List Int)) (us : List Value) (w : World) (B : Nat) (hk : k ≤ 9223372036854775807) (hown : w.ownsRow B 88 2 (.slice a n c) n (waitC ls us)) (hn : ls.length = n) (hu : us.length = n) (hm : n ≤ 1099511627776) (hBw : B ≤ w.heap.size) :
    Calls Tryd.prog 68 #[.slice a n c, .agg #[.int .i64 (k : Int), .slice (some ⟨b, 0, none⟩) m cv]] w fun e w' => ∃ v' us', e = .returned v' ∧ w'.ownsRow B 88 2 v' (laidL ls (k, r)).length (waitC (laidL ls (k, r)) us') ∧ us'.length = (laidL ls (k, r)).length ∧
      (∀ (i : Nat) (p : Nat × List Int) (u : Value), (laidL ls (k, r))[i]? = some p → us'[i]? = some u → (p = (k, r) ∧ u = .slice (some ⟨b, 0, none⟩) m cv) ∨ (ls[i]? = some p ∧ us[i]? = some u)) ∧ w.grownBy w' (Value.slice a n c).ownBlock ∧ (v'.ownBlock = (Value.slice a n c).ownBlock ∨ ∃ x, v'.ownBlock = some x ∧ w.heap.size ≤ x) := by
  obtain ⟨i0, hi0, hz0, hz1, hz2⟩ := info_parts info_sector
  have I0 := Lib.hid (And.intro hi0 (And.intro hz0 (And.intro hz1 hz2)))
  have HO := Lib.hid (And.intro hown (And.intro hn hu))
  clear hi0 hz0 hz1 hz2 hown hn hu
  go_enter Tryd.func68, Tryd.ntmps68
  go_wp2_with fail
  have hs0 : (w.alloc (.cells #[.int .i64 (k : Int), .slice (some ⟨b, 0, none⟩) m cv] 88)).cell? ⟨w.heap.size, 0, none⟩ = some (.int .i64 (k : Int)) := row_cells (heap_alloc_new w _) 0
  have hs1 : (w.alloc (.cells #[.int .i64 (k : Int), .slice (some ⟨b, 0, none⟩) m cv] 88)).cell? ⟨w.heap.size, 1, none⟩ = some (.slice (some ⟨b, 0, none⟩) m cv) := row_cells (heap_alloc_new w _) 1
  have hsz : w.heap.size < (w.alloc (.cells #[.int .i64 (k : Int), .slice (some ⟨b, 0, none⟩) m cv] 88)).heap.size := lt_of_block (heap_alloc_new w _)
  have HB1 := Lib.hid (below1 w (.cells #[.int .i64 (k : Int), .slice (some ⟨b, 0, none⟩) m cv] 88))
  have HO1 : Hid ((w.alloc (.cells #[.int .i64 (k : Int), .slice (some ⟨b, 0, none⟩) m cv] 88)).ownsRow B 88 2 (.slice a n c) n (waitC ls us)) := Lib.hid (World.ownsRow.alloc HO.out.1 _)
  generalize w.alloc (.cells #[.int .i64 (k : Int), .slice (some ⟨b, 0, none⟩) m cv] 88) = w1 at hs0 hs1 hsz HB1 HO1 ⊢
  go_loopw [5] (fun i wr => ∃ j : Nat, j ≤ n ∧ i = .int .i64 (j : Int) ∧ Hid (Below w1.heap.size w1 wr ∧ ∀ (x : Nat) (q : Nat × List Int), x < j → ls[x]? = some q → q.1 ≠ k)) (fun i _ => n - (intOf i).toNat)
  case atStart => exact ⟨0, by omega, rfl, Below.refl _ _, fun x q h => by omega⟩
  case round =>
    obtain ⟨j, hj, rfl, HK⟩ := hrel
    replace HK := Lib.hid HK
    by_cases hlt : j < n
    · obtain ⟨p, hp⟩ : ∃ p, ls[j]? = some p := ⟨_, List.getElem?_eq_getElem (by rw [HO.out.2.1]; exact hlt)⟩
      obtain ⟨v, hv⟩ : ∃ v, us[j]? = some v := ⟨_, List.getElem?_eq_getElem (by rw [HO.out.2.2]; exact hlt)⟩
      obtain ⟨ga, ea, hgB, hgl, cur, hgc⟩ : ∃ ga, a = some (⟨ga, 0, none⟩ : Addr) ∧ B ≤ ga ∧ ga < w1.heap.size ∧ ∃ cur, w1.heap[ga]? = some (.cells cur 88) := by
        rcases HO1.out.2 with ⟨hv, hz⟩ | ⟨g, cap, cur, hv, hB, hg, -⟩
        · omega
        · injection hv with h1 h2 h3
          exact ⟨g, h1, hB, lt_of_block hg, cur, hg⟩
      subst ea
      obtain ⟨e1, e2⟩ := waitC_get _ _ (by rw [HO.out.2.1, HO.out.2.2]) j p v hp hv
      have z1 := (HK.out.1.cell (p := ⟨ga, 2 * j, none⟩) hgl).trans ((World.ownsRow.cellAt HO1.out (2 * j) (by omega)).trans e1)
      have z2 := (HK.out.1.cell (p := ⟨ga, 2 * j + 1, none⟩) hgl).trans ((World.ownsRow.cellAt HO1.out (2 * j + 1) (by omega)).trans e2)
      have t0 := (HK.out.1.cell (p := ⟨w.heap.size, 0, none⟩) hsz).trans hs0
      have t1 := (HK.out.1.cell (p := ⟨w.heap.size, 1, none⟩) hsz).trans hs1
      have hgr := (HK.out.1.block ga hgl).trans hgc
      have fz : ∀ i, wr.frozen? ⟨ga, i, none⟩ = false := fun i => by simp [World.frozen?, hgr]
      have f1 := fz (j * 2)
      have f2 := fz (j * 2 + 1)
      clear fz
      rw [Nat.mul_comm 2 j] at z1 z2
      have HP := Lib.hid (And.intro hp hv)
      clear hp hv e1 e2
      by_cases he : p.1 = k
      · have q : ((p.1 : Int) == (k : Int)) = true := by simp [he]
        have HE := Lib.hid he
        clear he
        have hl : laidL ls (k, r) = ls.set j (k, r) := laidL_set ls (k, r) j p HK.out.2 HP.out.1 HE.out
        have ho : wr.ownsRow B 88 2 (.slice (some ⟨ga, 0, none⟩) n c) n (waitC ls us) := row_keepS HO1.out fun x hx => by
          injection hx with hx
          subst hx
          exact HK.out.1.block _ hgl
        have ho1 := World.ownsRow.stored ho (2 * j) (.int .i64 (k : Int))
        have ho2 := World.ownsRow.stored ho1.1 (2 * j + 1) (.slice (some ⟨b, 0, none⟩) m cv)
        have hw := waitC_set ls us (by rw [HO.out.2.1, HO.out.2.2]) j (k, r) (.slice (some ⟨b, 0, none⟩) m cv)
        have hg := (grown_of (HB1.out.trans (HK.out.1.mono HB1.out.size)) (some ga)).trans (ho1.2.trans ho2.2)
        rw [Nat.mul_comm 2 j] at ho2 hg hw
        have HX := Lib.hid (And.intro ho2.1 (And.intro hg (And.intro hl hw)))
        clear hl ho ho1 ho2 hw hg
        go_wp2_with fail
        go_region
        go_wp2_with fail
        go_ret
        refine ⟨_, us.set j (.slice (some ⟨b, 0, none⟩) m cv), rfl, ?_, ?_, ?_, ⟨HX.out.2.1.os, HX.out.2.1.tape, HX.out.2.1.output, HX.out.2.1.size, HX.out.2.1.block⟩, .inl rfl⟩
        · rw [HX.out.2.2.1, List.length_set, HO.out.2.1, HX.out.2.2.2]
          exact HX.out.1
        · rw [HX.out.2.2.1, List.length_set, List.length_set, HO.out.2.1, HO.out.2.2]
        · rw [HX.out.2.2.1]
          exact set_rows
      · have q : ((p.1 : Int) == (k : Int)) = false := by simp; omega
        have HE := Lib.hid he
        clear he
        go_wp2_with fail
        go_region
        go_wp2_with fail
        go_roundw
        case rel => exact ⟨j + 1, by omega, by go_num, HK.out.1.drew, fun x q' hx hq' => by
          by_cases e : x = j
          · subst e
            rw [HP.out.1] at hq'
            injection hq' with hq'
            rw [← hq']
            exact HE.out
          · exact HK.out.2 x q' (by omega) hq'⟩
        case measure => simp [intOf]; omega
    · have hjn : j = n := by omega
      subst hjn
      have hl : laidL ls (k, r) = ls ++ [(k, r)] := laidL_end ls (k, r) fun x q hq => HK.out.2 x q (by have := lt_of_get hq; rw [HO.out.2.1] at this; exact this) hq
      have HL := Lib.hid hl
      have ho : wr.ownsRow B 88 2 (.slice a j c) j (waitC ls us) := row_keepS HO1.out fun x hx => HK.out.1.block _ (rowS_obj HO1.out x hx).choose_spec.2.2
      have HOW := Lib.hid ho
      have t0 := (HK.out.1.cell (p := ⟨w.heap.size, 0, none⟩) hsz).trans hs0
      have t1 := (HK.out.1.cell (p := ⟨w.heap.size, 1, none⟩) hsz).trans hs1
      clear hl ho
      have hlb : ls.length + 1 ≤ 1099511627777 := by rw [HO.out.2.1]; omega
      go_wp2_with (show wpList _ _ _ (⟨some 28, _, _, _, _, _⟩ :: _) _ _; go_loud (refine wpList_append_own_at _ rfl (.tmp 25) (.tmp 27) 81 rfl B 88 i0 _ 2 32 Tryd.underlying81 I0.out.1 I0.out.2.1 I0.out.2.2.1 I0.out.2.2.2 rfl (by decide) _ j _ rfl (World.ownsRow.alloc HOW.out _) ⟨wr.heap.size, 0, none⟩ 1 1 [.int .i64 (k : Int), .slice (some ⟨b, 0, none⟩) m cv] rfl rfl (fun j u hu => news_at wr #[.int .i64 (k : Int), .slice (some ⟨b, 0, none⟩) m cv] 88 _ rfl j u hu) (by intro u hu; simp at hu; rcases hu with rfl | rfl <;> rfl) (by unfold maxLen; omega) (by omega) (Nat.le_trans hBw (Nat.le_trans HB1.out.size (Nat.le_trans HK.out.1.size (below1 wr _).size))) ?_; intro v7 w7 own7 grow7 _ hob7; have G7 := Lib.hid (And.intro own7 (And.intro ((grown_of (HB1.out.trans ((HK.out.1.alloc HK.out.1.size (.cells #[.int .i64 (k : Int), .slice (some ⟨b, 0, none⟩) m cv] 88)).mono HB1.out.size)) (Value.slice a j c).ownBlock).trans grow7) hob7)); clear own7 grow7 hob7))
      go_ret
      refine ⟨v7, us ++ [.slice (some ⟨b, 0, none⟩) m cv], rfl, ?_, ?_, ?_, G7.out.2.1, ?_⟩
      · rw [HL.out, List.length_append, List.length_singleton, HO.out.2.1, waitC_snoc _ _ (by rw [HO.out.2.1, HO.out.2.2])]
        exact G7.out.1
      · rw [HL.out, List.length_append, List.length_append, HO.out.2.1, HO.out.2.2]; rfl
      · rw [HL.out]
        intro x p u h1 h2
        by_cases hx : x < ls.length
        · rw [List.getElem?_append_left hx] at h1
          rw [List.getElem?_append_left (by rw [HO.out.2.2, ← HO.out.2.1]; exact hx)] at h2
          exact .inr ⟨h1, h2⟩
        · have hx2 := lt_of_get h1
          rw [List.length_append, List.length_singleton] at hx2
          have e : x = ls.length := by omega
          rw [e, List.getElem?_append_right (Nat.le_refl _), Nat.sub_self] at h1
          rw [e, HO.out.2.1, ← HO.out.2.2, List.getElem?_append_right (Nat.le_refl _), Nat.sub_self] at h2
          injection h1 with h1
          injection h2 with h2
          exact .inl ⟨h1.symm, h2.symm⟩
      · rcases G7.out.2.2 with e | e
        · exact .inl e
        · refine .inr ⟨_, e, ?_⟩
          exact Nat.le_trans HB1.out.size (Nat.le_trans HK.out.1.size (below1 wr _).size)
end Go.Proofs.YtonjapphhbhcpaaDoor
namespace Go.Proofs.YtonjapphhbhcpaaDoor
open Go.RowKit
set_option maxRecDepth 100000

theorem laidL_len (l : List (Nat × List Int)) (p : Nat × List Int) : (laidL l p).length ≤ l.length + 1 := by
  induction l with
  | nil => simp [laidL]
  | cons q l ih =>
    rw [laidL]
    split
    · simp
    · simp only [List.length_cons]; omega
/-- What the call of laid tells, as a disk takes it. -/
structure LaidTo (w w' : World) (B : Nat) (sv : Value) (ls : List (Nat × List Int)) (us : List Value) (k : Nat) (r : List Int) (V v' : Value) (us' : List Value) : Prop where
  own : w'.ownsRow B 88 2 v' (laidL ls (k, r)).length (waitC (laidL ls (k, r)) us')
  len : us'.length = (laidL ls (k, r)).length
  rel : ∀ (i : Nat) (p : Nat × List Int) (u : Value), (laidL ls (k, r))[i]? = some p → us'[i]? = some u → (p = (k, r) ∧ u = V) ∨ (ls[i]? = some p ∧ us[i]? = some u)
  grown : w.grownBy w' sv.ownBlock
  at_ : v'.ownBlock = sv.ownBlock ∨ ∃ x, v'.ownBlock = some x ∧ w.heap.size ≤ x
theorem RefOf.lay {w w' : World} {B g N : Nat} {d : Dk} {s : RSpot} (h : RefOf w B g d N s) {k : Nat} {r : List Int} {V v' : Value} {us' : List Value} (hr : RowAt w B V r) (t : LaidTo w w' B s.sv s.ls s.us k r V v' us') :
    RefOf (w'.setCell ⟨g, 1, none⟩ v') B g (d.lay k r) (N + 1) { s with sv := v', ls := laidL s.ls (k, r), us := us' } ∧ Turns TR B w (w'.setCell ⟨g, 1, none⟩ v') := by
  have offS := row_off h h.safeR
  have offW := row_off h h.waitR
  have hbox : w'.heap[g]? = some (.cells (refC d s.sv s.wv) 83) := (t.grown.block g h.lt (fun e => offS g e.symm rfl)).trans h.box
  have ht1 : Turns TR B w w' := (Turns.refl TR B w).grown t.grown (fun x e => by
    obtain ⟨cur, e1, e2, -⟩ := rowS_obj h.safeR x e
    exact ⟨e2, _, e1, TR_sector _ _⟩) (Nat.le_trans h.gB (Nat.le_of_lt h.lt))
  have ht : Turns TR B w (w'.setCell ⟨g, 1, none⟩ v') := ht1.setCell (p := ⟨g, 1, none⟩) hbox (TR_disk _ _) h.gB _
  have offV : ∀ b, v'.ownBlock = some b → b ≠ g := by
    rcases t.at_ with e | ⟨x, e, hx⟩
    · intro b hb; rw [e] at hb; exact offS b hb
    · intro b hb
      rw [e] at hb
      injection hb with hb
      have := h.lt
      omega
  refine ⟨?_, ht⟩
  exact {
    box := set_heap (i := 1) hbox _
    gB := h.gB
    safeR := row_keepS t.own fun b hb => set_off _ _ (offV b hb)
    waitR := row_keepS h.waitR fun b hb => (set_off _ _ (offW b hb)).trans (t.grown.block b (rowS_obj h.waitR b hb).choose_spec.2.2 (fun e => h.ne b e.symm hb))
    ne := fun b hb hb2 => by
      rcases t.at_ with e | ⟨x, e, hx⟩
      · exact h.ne b (e ▸ hb) hb2
      · have hb' : v'.ownBlock = some b := hb
        rw [e] at hb'
        injection hb' with hb'
        have := (rowS_obj h.waitR b hb2).choose_spec.2.2
        omega
    ulen := t.len
    vlen := h.vlen
    isS := by
      show upd d.safe k r = over noSecs (laidL s.ls (k, r))
      rw [h.isS]
      funext i
      exact (over_laid h.keys (k, r) i).symm
    keys := laidL_nodup h.keys (k, r)
    rowsS := fun i p u a b => by
      rcases t.rel i p u a b with ⟨rfl, rfl⟩ | ⟨h1, h2⟩
      · exact hr.turns ht fun _ => TR_byte _ _
      · exact (h.rowsS i p u h1 h2).turns ht fun _ => TR_byte _ _
    rowsW := fun i p u a b => (h.rowsW i p u a b).turns ht fun _ => TR_byte _ _
    num := by
      have h1 := laidL_len s.ls (k, r)
      have h2 := h.num
      show (laidL s.ls (k, r)).length + d.wait.length ≤ N + 1
      omega
    many := h.many
    acts := h.acts }
end Go.Proofs.YtonjapphhbhcpaaDoor
namespace Go.Proofs.YtonjapphhbhcpaaDoor
open Go.RowKit
set_option maxRecDepth 100000

theorem RefOf.swapW {w w' : World} {B g N N' : Nat} {d : Dk} {s : RSpot} (h : RefOf w B g d N s) (hb : Below w.heap.size w w') {v : Value} {l' : List (Nat × List Int)} {vs : List Value} (own : w'.ownsRow w.heap.size 88 2 v l'.length (waitC l' vs)) (hlen : vs.length = l'.length)
    (rows : ∀ (i : Nat) (p : Nat × List Int) (u : Value), l'[i]? = some p → vs[i]? = some u → RowAt w' B u p.2) (hN : s.ls.length + l'.length ≤ N') :
    RefOf (w'.setCell ⟨g, 2, none⟩ v) B g { d with wait := l' } N' { s with wv := v, vs := vs } ∧ Turns TR B w (w'.setCell ⟨g, 2, none⟩ v) := by
  have hBw : B ≤ w.heap.size := Nat.le_trans h.gB (Nat.le_of_lt h.lt)
  have hbox : w'.heap[g]? = some (.cells (refC d s.sv s.wv) 83) := (hb.block g h.lt).trans h.box
  have ht2 : Turns TR B w' (w'.setCell ⟨g, 2, none⟩ v) := (Turns.refl TR B w').setCell (p := ⟨g, 2, none⟩) hbox (TR_disk _ _) h.gB _
  have ht := (Turns.of_below (T := TR) hBw hb).trans ht2
  refine ⟨?_, ht⟩
  exact {
    box := set_heap (i := 2) hbox _
    gB := h.gB
    safeR := row_keepS h.safeR fun b hb' => (set_off _ _ (row_off h h.safeR b hb')).trans (hb.block b (rowS_obj h.safeR b hb').choose_spec.2.2)
    waitR := by
      have e : (w'.setCell ⟨g, 2, none⟩ v).ownsRow w.heap.size 88 2 v l'.length (waitC l' vs) := row_keepS own fun b hb' => set_off _ _ (fun e => by
        have h1 := (rowS_obj own b hb').choose_spec.2.1
        have h2 := h.lt
        omega)
      obtain ⟨h1, h2⟩ := e
      refine ⟨h1, ?_⟩
      rcases h2 with h2 | ⟨g', cap, cur, hv, hB', hrest⟩
      · exact .inl h2
      · exact .inr ⟨g', cap, cur, hv, Nat.le_trans hBw hB', hrest⟩
    ne := fun b hb1 hb2 => by
      have h1 := (rowS_obj own b hb2).choose_spec.2.1
      have h2 := (rowS_obj h.safeR b hb1).choose_spec.2.2
      omega
    ulen := h.ulen
    vlen := hlen
    isS := h.isS
    keys := h.keys
    rowsS := fun i p u a b => (h.rowsS i p u a b).turns ht fun _ => TR_byte _ _
    rowsW := fun i p u a b => (rows i p u a b).turns ht2 fun _ => TR_byte _ _
    num := hN
    many := h.many
    acts := h.acts }
/-- The rows of the document's disk, as they are read. -/
theorem RefOf.waitIn {w : World} {B g N : Nat} {d : Dk} {s : RSpot} (h : RefOf w B g d N s) : ∃ (a : Option Addr) (c : Nat), s.wv = .slice a d.wait.length c ∧ SecsIn w B a d.wait := by
  have h0 := h.waitR
  rcases h0.2 with ⟨hv, hz⟩ | ⟨ga, cap, cur, hv, hB, hg, hle, -⟩
  · refine ⟨none, 0, by rw [hv, hz], fun i p hi => ?_⟩
    have := lt_of_get hi
    omega
  · refine ⟨some ⟨ga, 0, none⟩, cap, hv, fun i p hi => ?_⟩
    have hlt := lt_of_get hi
    have hvi : s.vs[i]? = some (s.vs[i]'(by rw [h.vlen]; exact hlt)) := List.getElem?_eq_getElem _
    obtain ⟨e1, e2⟩ := waitC_get _ _ h.vlen i p _ hi hvi
    have hw := h0
    rw [hv] at hw
    refine ⟨ga, _, rfl, h.rowsW i p _ hi hvi, lt_of_block hg, ?_, ?_⟩
    · rw [World.ownsRow.cellAt hw (2 * i) (by omega)]; exact e1
    · rw [World.ownsRow.cellAt hw (2 * i + 1) (by omega)]; exact e2
end Go.Proofs.YtonjapphhbhcpaaDoor
namespace Go.Proofs.YtonjapphhbhcpaaDoor
open Go.RowKit
set_option maxRecDepth 100000

theorem RefOf.anyNow {w : World} {B g N : Nat} {d : Dk} {s : RSpot} (h : RefOf w B g d N s) (f : Secs) : RefOf w B g { d with now := f } N s :=
  ⟨h.box, h.gB, h.safeR, h.waitR, h.ne, h.ulen, h.vlen, h.isS, h.keys, h.rowsS, h.rowsW, h.num, h.many, h.acts⟩
set_option maxHeartbeats 4000000 in
theorem rplant_any (g : Nat) (at_ : Int) (la : Option Addr) (n c : Nat) (l : List Int) (w : World) (B N : Nat) (d : Dk) (ha : okInt at_) (hb : RefAt w B g d N) (hin : InB w la l) (hn : l.length = n) (hN : N ≤ 1099511627775) :
    Calls Tryd.prog 47 #[.pointer (some ⟨g, 0, none⟩), .int .i64 at_, .slice la n c] w fun e w' => e = .returned (.tuple #[]) ∧ RefAt w' B g (d.plant at_ l) (N + 1) ∧ Turns TR B w w' := by
  obtain ⟨hok, s, hb⟩ := hb
  obtain ⟨q0, q1, q2, -⟩ := refC_get d s.sv s.wv
  have c0 := (hb.cells 0).trans q0
  have hm := hb.many
  have HB := Lib.hid (And.intro hb hok)
  have HI := Lib.hid (And.intro hin hn)
  unfold okInt at ha
  clear q0 hok hb hin hn
  by_cases hr : 0 ≤ at_ ∧ at_ < d.many
  · obtain ⟨hr1, hr2⟩ := hr
    obtain ⟨k, rfl⟩ := Int.eq_ofNat_of_zero_le hr1
    have hkm : k < d.many := by omega
    have hmk : ∀ w : World, (Instr.makeSlice 24 (.int .i64 512) (.int .i64 512)).run Tryd.prog w = .ok (.slice (some ⟨w.heap.size, 0, none⟩) 512 512) (w.alloc (.cells (zeroV 512).toArray 5)) := fun w => by have := make_zero 512 (by omega) w; simpa using this
    obtain ⟨sa, sc, hsv⟩ := rowS_form HB.out.1.safeR
    have HSV := Lib.hid hsv
    have HC1 := Lib.hid (show w.cell? ⟨g, 1, none⟩ = some (.slice sa s.ls.length sc) by rw [← hsv]; exact (HB.out.1.cells 1).trans q1)
    clear hsv q1 q2
    go_enter Tryd.func47, Tryd.ntmps47
    go_wp2_with (show wpList _ _ _ (⟨some 20, _, _, _, _, _⟩ :: _) _ _; refine wpList_copy_splice (o := ⟨some 20, _, _, _, _, _⟩) rfl (.tmp 18) (.tmp 19) 24 24 rfl 5 Tryd.underlying24 size_byte' _ _ _ _ _ _ rfl rfl w.heap.size 0 (zeroV 512) 5 (heap_alloc_new w _) (btV (l.take 512)) (by rw [btV_len, List.length_take, HI.out.2]; exact Nat.min_comm _ _) (fun hp => ⟨rfl, InB.src ((inB_take HI.out.1 512).then_ (below1 w _)) (Below.refl _ _) (by rw [btV_len] at hp; exact hp)⟩) (by rw [btV_len, List.length_take, zeroV_len]; omega) (btV_one _) w.heap.size w (below1 w _) (Nat.le_refl _) ?_; intro w2 hg2 hb2; rw [asRow_splice] at hg2; have HG2 := Lib.hid hg2.out; have HB2 := Lib.hid hb2; have c12 := (hb2.cell (p := ⟨g, 1, none⟩) HB.out.1.lt).trans HC1.out; clear hg2 hb2)
    have HR2 := Lib.hid (row_made (w := w2) (B := ⟨B, none⟩) (asRow_len l) HG2.out (Nat.le_trans HB.out.1.gB (Nat.le_of_lt HB.out.1.lt)) (by simp))
    have H2 := Lib.hid (HB.out.1.turns (T := fun _ => False) (B' := 0) (Turns.of_below (Nat.zero_le _) HB2.out) (fun _ h => h) (fun _ h => h) (fun _ h => h))
    have hHN := HB.out.1.num
    have hBw2 := Nat.le_trans H2.out.gB (Nat.le_of_lt H2.out.lt)
    have HL := Lib.hid (rlaid_any k (asRow l) w.heap.size 512 512 sa s.ls.length sc s.ls s.us w2 B (by omega) (by rw [← HSV.out]; exact H2.out.safeR) rfl H2.out.ulen (by omega) hBw2)
    refine HL.out.mono ?_
    rintro e w3 ⟨v', us', rfl, p1, p2, p3, p4, p5⟩
    obtain ⟨va, vc, rfl⟩ := rowS_form p1
    rw [← HSV.out] at p4 p5
    have H4 := Lib.hid (H2.out.lay HR2.out ⟨p1, p2, p3, p4, p5⟩)
    have hb3 : w3.heap[g]? = some (.cells (refC d s.sv s.wv) 83) := (p4.block g H2.out.lt (fun e => row_off H2.out H2.out.safeR g e.symm rfl)).trans H2.out.box
    have k1 : w3.cell? ⟨g, 1, none⟩ = some s.sv := row_cells hb3 1
    have f1 : w3.frozen? ⟨g, 1, none⟩ = false := by simp [World.frozen?, hb3]
    obtain ⟨wa, wc, hwv, hwin⟩ := H4.out.1.waitIn
    have k2 := (H4.out.1.cells 2).trans (refC_get _ _ _).2.2.1
    rw [hwv] at k2
    have HW := Lib.hid (rwithout_any k wa d.wait.length wc d.wait (w3.setCell ⟨g, 1, none⟩ (.slice va _ vc)) B (by omega) hwin rfl (by omega))
    clear p1 p2 p3 p4 p5 hb3 hwv hwin
    go_wp2_with fail
    refine HW.out.mono ?_
    rintro e w5 ⟨v5, rfl, ⟨vs5, o1, o2, o3⟩, b5⟩
    obtain ⟨v5a, v5c, rfl⟩ := rowS_form o1
    have HX := Lib.hid (H4.out.1.swapW (N' := N + 1) b5 o1 o2 o3 (by
      have h1 := H4.out.1.num
      have h2 := but_len d.wait k
      have h3 : (laidL s.ls (k, asRow l)).length + d.wait.length ≤ N + 1 := h1
      show (laidL s.ls (k, asRow l)).length + (but d.wait k).length ≤ N + 1
      omega))
    have hb5 : w5.heap[g]? = _ := (b5.block g H4.out.1.lt).trans H4.out.1.box
    have k5 : w5.cell? ⟨g, 2, none⟩ = some s.wv := row_cells hb5 2
    have f5 : w5.frozen? ⟨g, 2, none⟩ = false := by simp [World.frozen?, hb5]
    clear o1 o2 o3 b5 hb5
    have HD := Lib.hid (show ({ (({ d.lay k (asRow l) with wait := but d.wait k } : Dk)) with now := upd d.now k (asRow l) } : Dk) = d.plant (k : Int) l by
      unfold Dk.plant
      rw [if_pos ⟨hr1, hr2⟩, Int.toNat_natCast]
      rfl)
    have HY : Hid (RefAt (w5.setCell ⟨g, 2, none⟩ (.slice v5a (but d.wait k).length v5c)) B g (d.plant (k : Int) l) (N + 1) ∧ Turns TR B w (w5.setCell ⟨g, 2, none⟩ (.slice v5a (but d.wait k).length v5c))) := Lib.hid ⟨⟨Dk.plant_ok HB.out.2 _ _, _, by rw [← HD.out]; exact HX.out.1.anyNow _⟩, ((Turns.of_below (T := TR) (Nat.le_trans HB.out.1.gB (Nat.le_of_lt HB.out.1.lt)) HB2.out).trans H4.out.2).trans HX.out.2⟩
    go_wp2_with fail
    exact ⟨rfl, .tuple #[], results_void rfl _ _, rfl, HY.out⟩
  · have HE : Hid (RefAt w B g (d.plant at_ l) (N + 1)) := Lib.hid (by
      have hX : d.plant at_ l = d := by unfold Dk.plant; rw [if_neg hr]
      rw [hX]
      exact ⟨HB.out.2, s, { HB.out.1 with num := Nat.le_succ_of_le HB.out.1.num }⟩)
    by_cases h1 : at_ < 0
    · clear hr
      go_enter Tryd.func47, Tryd.ntmps47
      go_wp2_with fail
      exact ⟨rfl, .tuple #[], results_void rfl _ _, rfl, HE.out, Turns.refl _ _ _⟩
    · have h2 : (d.many : Int) ≤ at_ := by omega
      clear hr
      go_enter Tryd.func47, Tryd.ntmps47
      go_wp2_with fail
      exact ⟨rfl, .tuple #[], results_void rfl _ _, rfl, HE.out, Turns.refl _ _ _⟩
end Go.Proofs.YtonjapphhbhcpaaDoor
