/- A disk's box read, written, and left alone. Package block's simple calls: contracts. Package block's reading calls: contracts. No statement is proved here. -/
import Derived.Test.YtophhnolnlbecaaDoorQ11
import Derived.Carry
import Derived.Test.YtophhnolnlbecaaDoorQ5
namespace Go.Proofs.YtophhnolnlbecaaDoor
open Go.RowKit
open Go.Maps (Keyed IsMap Tidy)
set_option maxRecDepth 100000

theorem owns_keep {w w' : World} {b n : Nat} {D : DataW Unit} (h : w.ownsMap Tryd.prog 3 RowR b n D) (e : w'.heap[b]? = w.heap[b]?) : w'.ownsMap Tryd.prog 3 RowR b n D := by
  obtain ⟨es, clock, hb, hr⟩ := h
  exact ⟨es, clock, e.trans hb, hr⟩
theorem row_keepW {w w' : World} {B n : Nat} {v : Value} {xs : List Value} (h : w.ownsRow B 100 2 v n xs) (hb : ∀ g, v.ownBlock = some g → w'.heap[g]? = w.heap[g]?) : w'.ownsRow B 100 2 v n xs := by
  obtain ⟨h1, h2⟩ := h
  refine ⟨h1, ?_⟩
  rcases h2 with h2 | ⟨g, cap, cur, hv, hB, hg, hrest⟩
  · exact .inl h2
  · refine .inr ⟨g, cap, cur, hv, hB, ?_, hrest⟩
    rw [hb g (by rw [hv]; rfl)]
    exact hg
section
variable {w w' : World} {B : Base} {g N : Nat} {d d' : Dk} {s : Spot}
theorem BoxOf.lt (h : BoxOf w B g d N s) : g < w.heap.size := lt_of_block h.box
theorem BoxOf.sbObj (h : BoxOf w B g d N s) : ∃ es c, w.heap[s.sb]? = some (.map es c) := by obtain ⟨es, c, hb, -⟩ := h.mapS; exact ⟨es, c, hb⟩
theorem BoxOf.nbObj (h : BoxOf w B g d N s) : ∃ es c, w.heap[s.nb]? = some (.map es c) := by obtain ⟨es, c, hb, -⟩ := h.mapN; exact ⟨es, c, hb⟩
theorem BoxOf.sbLt (h : BoxOf w B g d N s) : s.sb < w.heap.size := by obtain ⟨es, c, e⟩ := h.sbObj; exact lt_of_block e
theorem BoxOf.nbLt (h : BoxOf w B g d N s) : s.nb < w.heap.size := by obtain ⟨es, c, e⟩ := h.nbObj; exact lt_of_block e
theorem BoxOf.gsb (h : BoxOf w B g d N s) : g ≠ s.sb := by
  rintro rfl; obtain ⟨es, c, e⟩ := h.sbObj; rw [h.box] at e; injection e with e; cases e
theorem BoxOf.gnb (h : BoxOf w B g d N s) : g ≠ s.nb := by
  rintro rfl; obtain ⟨es, c, e⟩ := h.nbObj; rw [h.box] at e; injection e with e; cases e
/-- The writes' block: it holds writes. -/
theorem BoxOf.wvObj (h : BoxOf w B g d N s) : ∀ b, s.wv.ownBlock = some b → ∃ cur, w.heap[b]? = some (.cells cur 100) ∧ B.lo ≤ b ∧ b < w.heap.size := by
  obtain ⟨h1, h2⟩ := h.wait
  rcases h2 with ⟨hv, -⟩ | ⟨g', cap, cur, hv, hB, hg, -⟩
  · intro b hb; rw [hv] at hb; cases hb
  · intro b hb
    rw [hv] at hb
    injection hb with hb
    subst hb
    exact ⟨cur, hg, hB, lt_of_block hg⟩
theorem box_not_write : (77 : Nat) ≠ 100 := by decide
theorem box_not_byte : (77 : Nat) ≠ 5 := by decide
theorem write_not_byte : (100 : Nat) ≠ 5 := by decide
theorem BoxOf.wvNe (h : BoxOf w B g d N s) : ∀ b, s.wv.ownBlock = some b → b ≠ g ∧ b ≠ s.sb ∧ b ≠ s.nb := by
  intro b hb
  obtain ⟨cur, e, -, -⟩ := h.wvObj b hb
  refine ⟨?_, ?_, ?_⟩
  · rintro rfl; rw [h.box] at e; injection e with e; injection e with _ e; exact box_not_write e
  · rintro rfl; obtain ⟨es, c, e2⟩ := h.sbObj; rw [e] at e2; injection e2 with e2; cases e2
  · rintro rfl; obtain ⟨es, c, e2⟩ := h.nbObj; rw [e] at e2; injection e2 with e2; cases e2
/-- A row of bytes lies apart from all of these. -/
theorem BoxOf.rowNe (h : BoxOf w B g d N s) {v : Value} {r : List Int} (hr : RowAt w B v r) : ∀ b, v.ownBlock = some b → b ≠ g ∧ b ≠ s.sb ∧ b ≠ s.nb ∧ ∀ x, s.wv.ownBlock = some x → b ≠ x := by
  intro b hb
  obtain ⟨cur, e, -, -⟩ := hr.block b hb
  refine ⟨?_, ?_, ?_, ?_⟩
  · rintro rfl; rw [h.box] at e; injection e with e; injection e with _ e; exact box_not_byte e
  · rintro rfl; obtain ⟨es, c, e2⟩ := h.sbObj; rw [e] at e2; injection e2 with e2; cases e2
  · rintro rfl; obtain ⟨es, c, e2⟩ := h.nbObj; rw [e] at e2; injection e2 with e2; cases e2
  · rintro x hx rfl; obtain ⟨cur2, e2, -⟩ := h.wvObj b hx; rw [e] at e2; injection e2 with e2; injection e2 with _ e2; exact write_not_byte e2.symm
theorem BoxOf.cells (h : BoxOf w B g d N s) (i : Nat) : w.cell? ⟨g, i, none⟩ = (boxC d s.sb s.nb s.wv)[i]? := row_cells h.box i
theorem BoxOf.frozen (h : BoxOf w B g d N s) (i : Nat) : w.frozen? ⟨g, i, none⟩ = false := by simp [World.frozen?, h.box]
/-- Where nothing of it has turned, it is the same disk. -/
theorem BoxOf.then_ (h : BoxOf w B g d N s) (hb : Below w.heap.size w w') : BoxOf w' B g d N s :=
  { h with
    box := (hb.block g h.lt).trans h.box
    mapS := owns_keep h.mapS (hb.block _ h.sbLt)
    mapN := owns_keep h.mapN (hb.block _ h.nbLt)
    isS := h.isS.keep fun v r hr => hr.then_ hb
    isN := h.isN.keep fun v r hr => hr.then_ hb
    wait := row_keepW h.wait fun b hb' => hb.block b (h.wvObj b hb').choose_spec.2.2
    rows := fun i p v h1 h2 => (h.rows i p v h1 h2).then_ hb }
theorem BoxAt.then_ (h : BoxAt w B g d N) (hb : Below w.heap.size w w') : BoxAt w' B g d N := by obtain ⟨k, s, h⟩ := h; exact ⟨k, s, h.then_ hb⟩
theorem BoxAt.lt (h : BoxAt w B g d N) : B.lo ≤ g ∧ g < w.heap.size := by obtain ⟨-, s, h⟩ := h; exact ⟨h.gB, h.lt⟩
theorem BoxAt.ok (h : BoxAt w B g d N) : d.ok := h.1
theorem BoxAt.more (h : BoxAt w B g d N) {N' : Nat} (hN : N ≤ N') : BoxAt w B g d N' := by
  obtain ⟨k, s, h⟩ := h
  exact ⟨k, s, { h with numS := Nat.le_trans h.numS hN, numN := Nat.le_trans h.numN hN }⟩
/-- The box's own cells turn: the rest stays. -/
theorem BoxOf.turn (h : BoxOf w B g d N s) (hb : ∀ b, b < w.heap.size → b ≠ g → w'.heap[b]? = w.heap[b]?) (hg : w'.heap[g]? = some (.cells (boxC d' s.sb s.nb s.wv) 77))
    (e1 : d'.safe = d.safe) (e2 : d'.now = d.now) (e3 : d'.wait = d.wait) (e4 : d'.many = d.many) (ha : d'.acts ≤ 9223372036854775807) : BoxOf w' B g d' N s where
  box := hg
  gB := h.gB
  sB := h.sB
  nB := h.nB
  ne := h.ne
  mapS := owns_keep h.mapS (hb _ h.sbLt h.gsb.symm)
  mapN := owns_keep h.mapN (hb _ h.nbLt h.gnb.symm)
  isS := by rw [e1]; exact h.isS.keep fun v r hr => hr.keep fun b hb' => hb b (hr.block b hb').choose_spec.2.2 (h.rowNe hr b hb').1
  isN := by rw [e2]; exact h.isN.keep fun v r hr => hr.keep fun b hb' => hb b (hr.block b hb').choose_spec.2.2 (h.rowNe hr b hb').1
  wlen := by rw [e3]; exact h.wlen
  wait := by rw [e3]; exact row_keepW h.wait fun b hb' => hb b (h.wvObj b hb').choose_spec.2.2 (h.wvNe b hb').1
  rows := fun i p v h1 h2 => by
    rw [e3] at h1
    have hr := h.rows i p v h1 h2
    exact hr.keep fun b hb' => hb b (hr.block b hb').choose_spec.2.2 (h.rowNe hr b hb').1
  numS := by rw [e3]; exact h.numS
  numN := h.numN
  many := by rw [e4]; exact h.many
  acts := ha
theorem set_others (w : World) (a : Addr) (u : Value) (b : Nat) (h : b ≠ a.block) : (w.setCell a u).heap[b]? = w.heap[b]? := Below.heap_setCell w a u b h
end
/-- Of what was there only blocks of some make, from B on, may have turned. -/
structure Turns (T : Obj → Prop) (B : Nat) (w w' : World) : Prop where
  below : Below B w w'
  block : ∀ (b : Nat) (o : Obj), w.heap[b]? = some o → ¬ T o → w'.heap[b]? = some o
theorem Turns.refl (T : Obj → Prop) (B : Nat) (w : World) : Turns T B w w := ⟨Below.refl _ _, fun _ _ h _ => h⟩
theorem Turns.trans {T : Obj → Prop} {B : Nat} {a b c : World} (h : Turns T B a b) (k : Turns T B b c) : Turns T B a c :=
  ⟨h.below.trans k.below, fun i o e n => k.block i o (h.block i o e n) n⟩
theorem Turns.of_below {T : Obj → Prop} {B : Nat} {a b : World} (hB : B ≤ a.heap.size) (h : Below a.heap.size a b) : Turns T B a b :=
  ⟨h.mono hB, fun i o e _ => (h.block i (lt_of_block e)).trans e⟩
theorem Turns.size {T : Obj → Prop} {B : Nat} {a b : World} (h : Turns T B a b) : a.heap.size ≤ b.heap.size := h.below.size
theorem Turns.setCell {T : Obj → Prop} {B : Nat} {a b : World} (h : Turns T B a b) {p : Addr} {o : Obj} (hp : b.heap[p.block]? = some o) (ht : T o) (hB : B ≤ p.block) (u : Value) : Turns T B a (b.setCell p u) :=
  ⟨h.below.setCell hB u, fun i o' e n => by
    have h1 := h.block i o' e n
    refine (Below.heap_setCell b p u i ?_).trans h1
    rintro rfl
    rw [hp] at h1
    injection h1 with h1
    subst h1
    exact n ht⟩
theorem Turns.grown {T : Obj → Prop} {B : Nat} {a b c : World} (h : Turns T B a b) {row : Option Nat} (hg : b.grownBy c row) (hr : ∀ k, row = some k → B ≤ k ∧ ∃ o, b.heap[k]? = some o ∧ T o) (hB : B ≤ b.heap.size) : Turns T B a c :=
  ⟨h.below.grown hg hB fun k e => (hr k e).1, fun i o e n => by
    have h1 := h.block i o e n
    refine (hg.block i (lt_of_block h1) fun e2 => ?_).trans h1
    obtain ⟨-, o2, h2, h3⟩ := hr i e2.symm
    rw [h1] at h2
    injection h2 with h2
    subst h2
    exact n h3⟩
theorem Turns.mono {T : Obj → Prop} {B B' : Nat} {a b : World} (h : Turns T B a b) (hB : B' ≤ B) : Turns T B' a b := ⟨h.below.mono hB, h.block⟩
/-- What a disk of package block is made of. -/
def TB : Obj → Prop
  | .cells _ t _ => t = 77 ∨ t = 100
  | .loop _ => False
  | .deferred _ => False
  | _ => True
theorem RowAt.turns {T : Obj → Prop} {w w' : World} {B : Base} {B' : Nat} {v : Value} {r : List Int} (h : RowAt w B v r) (ht : Turns T B' w w') (hn : ∀ cur, ¬ T (.cells cur 5)) : RowAt w' B v r :=
  h.keep fun b hb => by
    obtain ⟨cur, h1, -, -⟩ := h.block b hb
    exact (ht.block b _ h1 (hn cur)).trans h1.symm
theorem TB_byte (cur : Array Value) (fr : Nat × Nat) : ¬ TB (.cells cur 5 fr) := by
  show ¬ ((5 : Nat) = 77 ∨ (5 : Nat) = 100)
  decide
theorem TB_box (cur : Array Value) (fr : Nat × Nat) : TB (.cells cur 77 fr) := .inl rfl
theorem TB_write (cur : Array Value) (fr : Nat × Nat) : TB (.cells cur 100 fr) := .inr rfl
end Go.Proofs.YtophhnolnlbecaaDoor
namespace Go.Proofs.YtophhnolnlbecaaDoor
open Go.RowKit
open Go.Maps (Keyed IsMap Tidy)
set_option maxRecDepth 100000

theorem row_empty (w : World) (B : Nat) : w.ownsRow B 100 2 (.slice none 0 0) 0 [] := World.ownsRow_nil _ _ _ _
theorem new_any (n : Nat) (hn : n ≤ 9223372036854775807) (w : World) : Calls Tryd.prog 18 #[.int .i64 (n : Int)] w fun e w' => ∃ h g, e = .returned (.pointer (some ⟨h, 0, none⟩)) ∧ w'.heap[h]? = some (.cells #[.pointer (some ⟨g, 0, none⟩)] 79) ∧ w.heap.size ≤ h ∧ BoxAt w' w.heap.size g (Dk.new n) 0 ∧ Below w.heap.size w w' := by
  have hmm := @run_makeMap Tryd.prog
  have hm : ¬ ((n : Int) < 0) := by omega
  go_enter Tryd.func18, Tryd.ntmps18
  go_wp2
  go_ret
  have e1 : w.heap.size + 1 = (w.alloc (.map #[] 0)).heap.size := by simp
  have e2 : w.heap.size + 1 + 1 = ((w.alloc (.map #[] 0)).alloc (.map #[] 0)).heap.size := by simp
  refine ⟨_, rfl, w.heap.size + 1 + 1, heap_alloc_at _ _ _ (by simp), by omega, ⟨Dk.new_ok n, ⟨w.heap.size, w.heap.size + 1, .slice none 0 0, 0, 0, .map [], .map [], []⟩, ?_⟩, (below3 _ _ _ _).alloc (by simp; omega) _⟩
  exact {
    box := by rw [Below.heap_alloc _ _ _ (by simp), e2]; exact heap_alloc_new _ _
    gB := by show w.heap.size ≤ w.heap.size + 1 + 1; omega
    sB := Nat.le_refl _
    nB := by show w.heap.size ≤ w.heap.size + 1; omega
    ne := by show w.heap.size ≠ w.heap.size + 1; omega
    mapS := (((World.ownsMap_made w _ _ _).alloc _).alloc _).alloc _
    mapN := by
      have h := World.ownsMap_made (w.alloc (.map #[] 0)) Tryd.prog 3 RowR
      rw [← e1] at h
      exact (h.alloc _).alloc _
    isS := MapIs.start _ _
    isN := MapIs.start _ _
    wlen := rfl
    wait := World.ownsRow_nil _ _ _ _
    rows := fun i p v h _ => (by simp [Dk.new] at h)
    numS := Nat.le_refl _
    numN := Nat.le_refl _
    many := hn
    acts := Nat.zero_le _ }
theorem disk_any (h g : Nat) (w : World) (hh : w.cell? ⟨h, 0, none⟩ = some (.pointer (some ⟨g, 0, none⟩))) :
    Calls Tryd.prog 20 #[.pointer (some ⟨h, 0, none⟩)] w fun e w' => e = .returned (.pointer (some ⟨w.heap.size, 0, none⟩)) ∧ w' = w.alloc (.cells #[.pointer (some ⟨g, 0, none⟩)] 86) := by
  go_enter Tryd.func20, Tryd.ntmps20
  go_wp2
  go_ret
  exact ⟨rfl, rfl⟩
theorem boxC_get (d : Dk) (sb nb : Nat) (wv : Value) : (boxC d sb nb wv)[0]? = some (.int .i64 (d.many : Int)) ∧ (boxC d sb nb wv)[1]? = some (.map (some sb)) ∧ (boxC d sb nb wv)[2]? = some (.map (some nb)) ∧ (boxC d sb nb wv)[3]? = some wv ∧ (boxC d sb nb wv)[4]? = some (.bool d.armed) ∧ (boxC d sb nb wv)[5]? = some (.int .i64 (d.acts : Int)) ∧ (boxC d sb nb wv)[6]? = some (.bool d.done) ∧ (boxC d sb nb wv)[7]? = some (.bool d.down) := ⟨rfl, rfl, rfl, rfl, rfl, rfl, rfl, rfl⟩
theorem sectors_any (h g : Nat) (w : World) (B : Base) (N : Nat) (d : Dk) (hh : w.cell? ⟨h, 0, none⟩ = some (.pointer (some ⟨g, 0, none⟩))) (hb : BoxAt w B g d N) :
    Calls Tryd.prog 81 #[.pointer (some ⟨h, 0, none⟩)] w fun e w' => e = .returned (.int .i64 (d.many : Int)) ∧ w = w' := by
  obtain ⟨hok, s, hb⟩ := hb
  have c0 := (hb.cells 0).trans (boxC_get d s.sb s.nb s.wv).1
  clear hb
  go_enter Tryd.func81, Tryd.ntmps81
  go_wp2
  go_ret
  exact ⟨rfl, rfl⟩
theorem results_void {P : Program} {fn : Func} (h : fn.results = #[]) (tmps : Array Value) (w : World) : (results fn tmps).run P w = .ok (.tuple #[]) w := by simp [results, h]
theorem set_heap {w : World} {g i : Nat} {cs : Array Value} {t : TypeId} (h : w.heap[g]? = some (.cells cs t)) (u : Value) : (w.setCell ⟨g, i, none⟩ u).heap[g]? = some (.cells (cs.setIfInBounds i u) t) := by
  rw [setCell_eq_setRow w g i cs t (0, 0) u h]
  exact setRow_heap _ _ _ _ _ _ h
theorem set_off (w : World) {g i b : Nat} (u : Value) (h : b ≠ g) : (w.setCell ⟨g, i, none⟩ u).heap[b]? = w.heap[b]? := Below.heap_setCell w ⟨g, i, none⟩ u b h
/-- Three cells of the box turned. -/
theorem arm_end {w : World} {B : Base} {g N : Nat} {d : Dk} {s : Spot} (hok : d.ok) (h : BoxOf w B g d N s) (n : Int) (b : Bool) (hn : -9223372036854775808 ≤ n ∧ n ≤ 9223372036854775807) {m : Int} (hm : m = (n.toNat : Nat)) :
    BoxAt ((((w.setCell ⟨g, 4, none⟩ (.bool true)).setCell ⟨g, 5, none⟩ (.int .i64 m)).setCell ⟨g, 6, none⟩ (.bool b)).drew) B g (d.arm n b) N ∧ Turns TB B.lo w ((((w.setCell ⟨g, 4, none⟩ (.bool true)).setCell ⟨g, 5, none⟩ (.int .i64 m)).setCell ⟨g, 6, none⟩ (.bool b)).drew) := by
  subst hm
  have h1 := set_heap (i := 4) h.box (.bool true)
  have h2 := set_heap (i := 5) h1 (.int .i64 ((n.toNat : Nat) : Int))
  have h3 := set_heap (i := 6) h2 (.bool b)
  refine ⟨⟨Dk.arm_ok hok n b, s, h.turn (d' := d.arm n b) (fun x hx hne => ?_) h3 rfl rfl rfl rfl (by show n.toNat ≤ _; omega)⟩, ?_⟩
  · show ((((w.setCell ⟨g, 4, none⟩ (.bool true)).setCell ⟨g, 5, none⟩ _).setCell ⟨g, 6, none⟩ (.bool b))).heap[x]? = _
    rw [set_off _ _ hne, set_off _ _ hne, set_off _ _ hne]
  · have t3 := (((Turns.refl TB B.lo w).setCell (p := ⟨g, 4, none⟩) h.box (TB_box _ _) h.gB (.bool true)).setCell (p := ⟨g, 5, none⟩) h1 (TB_box _ _) h.gB (.int .i64 ((n.toNat : Nat) : Int))).setCell (p := ⟨g, 6, none⟩) h2 (TB_box _ _) h.gB (.bool b)
    exact ⟨t3.below.drew, t3.block⟩
set_option maxHeartbeats 4000000 in
theorem arm_any (h g : Nat) (n : Int) (b : Bool) (w : World) (B : Base) (N : Nat) (d : Dk) (hn : okInt n) (hh : w.cell? ⟨h, 0, none⟩ = some (.pointer (some ⟨g, 0, none⟩))) (hb : BoxAt w B g d N) :
    Calls Tryd.prog 29 #[.pointer (some ⟨h, 0, none⟩), .int .i64 n, .bool b] w fun e w' => e = .returned (.tuple #[]) ∧ BoxAt w' B g (d.arm n b) N ∧ Turns TB B.lo w w' := by
  obtain ⟨hok, s, hb⟩ := hb
  obtain ⟨q0, q1, q2, q3, q4, q5, q6, q7⟩ := boxC_get d s.sb s.nb s.wv
  have c4 := (hb.cells 4).trans q4
  have c5 := (hb.cells 5).trans q5
  have c6 := (hb.cells 6).trans q6
  have f4 := hb.frozen 4
  have f5 := hb.frozen 5
  have f6 := hb.frozen 6
  clear q0 q1 q2 q3 q4 q5 q6 q7
  unfold okInt at hn
  have HB := Lib.hid hb
  clear hb
  have hne : h ≠ g := by
    rintro rfl
    have e := (HB.out.cells 0).trans (boxC_get d s.sb s.nb s.wv).1
    rw [e] at hh
    cases hh
  have hne' : g ≠ h := fun e => hne e.symm
  by_cases h0 : n < 0
  · go_enter Tryd.func29, Tryd.ntmps29
    go_wp2
    go_region
    exact ⟨rfl, .tuple #[], results_void rfl _ _, rfl, (arm_end hok HB.out n b hn (by omega) ).1, (arm_end hok HB.out n b hn (by omega)).2⟩
  · go_enter Tryd.func29, Tryd.ntmps29
    go_wp2
    go_region
    exact ⟨rfl, .tuple #[], results_void rfl _ _, rfl, (arm_end hok HB.out n b hn (by omega) ).1, (arm_end hok HB.out n b hn (by omega)).2⟩
end Go.Proofs.YtophhnolnlbecaaDoor
namespace Go.Proofs.YtophhnolnlbecaaDoor
open Go.RowKit
open Go.Maps (Keyed IsMap Tidy)
set_option maxRecDepth 100000

def zeroV (n : Nat) : List Value := List.replicate n (.int .u8 0)
theorem make_zero (n : Nat) (hn : n ≤ 140737488351232) (w : World) : (Instr.makeSlice 22 (.int .i64 (n : Int)) (.int .i64 (n : Int))).run Tryd.prog w = .ok (.slice (some ⟨w.heap.size, 0, none⟩) n n) (w.alloc (.cells (zeroV n).toArray 5)) := by
  obtain ⟨i, h1, h2, h3, h4⟩ := info_parts info_byte
  have hb2 : (i.bytes : Int) * (n : Int) ≤ 281474976710656 := by rw [h4]; omega
  have := run_make (P := Tryd.prog) w 22 5 i (.int .u8 0) Tryd.underlying22 h1 h2 .i64 .i64 n n (by omega) (by omega) hb2 (by omega)
  have e : madeCells (Value.int .u8 0).cells (n * i.size) = (zeroV n).toArray := by
    rw [h3, Nat.mul_one]
    apply Array.toList_inj.1
    exact toList_madeCells_one _ _
  simpa [e] using this
theorem zeroV_bt (n : Nat) : zeroV n = btV (List.replicate n 0) := by simp [zeroV, btV]
theorem zeroRow_len : zeroRow.length = 512 := List.length_replicate
/-- Bytes copied over zeros. -/
theorem splice_row (r : List Int) (n : Nat) (h : r.length = n) : splice (zeroV n) 0 (btV r) = btV r := by
  simp [splice, zeroV, btV_len, h]
theorem splice_none (n : Nat) : splice (zeroV n) 0 (btV []) = btV (List.replicate n 0) := by
  rw [← zeroV_bt]; simp [splice, btV]
theorem zeroV_len (n : Nat) : (zeroV n).length = n := by simp [zeroV]
attribute [irreducible] zeroV
theorem size_byte' : (Tryd.prog.info? 5).map (·.size) = some 1 := by kernel_rfl
theorem zero_row (w : World) : (zeroValue 22).run Tryd.prog w = .ok (.slice none 0 0) w := by kernel_rfl
/-- What is looked up where a sector is read: the row that stands there, or nothing. -/
structure Found (w : World) (v : Value) (r : List Int) (full : Bool) : Prop where
  none_ : full = false → v = .slice none 0 0
  some_ : full = true → ∃ g c, v = .slice (some ⟨g, 0, none⟩) r.length c ∧ InB w (some ⟨g, 0, none⟩) r
theorem BoxOf.found {w : World} {B : Base} {g N : Nat} {d : Dk} {s : Spot} (h : BoxOf w B g d N s) (k : Nat) (hk : k < d.many) : ∃ v full, (Instr.lookup 74 (.map (some s.nb)) (.int .i64 (k : Int)) false).run Tryd.prog w = .ok v w ∧ Found w v (d.look k) full ∧ (full = false → d.look k = zeroRow) := by
  have hm := h.many
  obtain ⟨v, ps, hrun, hv⟩ := h.mapN.lookup keyK Tryd.underlying74 (zero_row w) rowR_nil (key_at (k := (k : Int)) (by unfold okInt; omega))
  rcases h.isN.look k hv with ⟨h1, h2⟩ | ⟨r, h1, h2⟩
  · exact ⟨v, false, hrun, ⟨fun _ => h2, fun e => (by cases e)⟩, fun _ => by unfold Dk.look; rw [h1]; rfl⟩
  · have e : d.look k = r := by unfold Dk.look; rw [h1]; rfl
    rw [e]
    obtain ⟨a, c, e2, hin, -⟩ := h2.1.shape
    obtain ⟨g', c', e3, -, -⟩ := h2.form
    rw [e3] at e2
    injection e2 with e4 e5 e6
    subst e4
    exact ⟨v, true, hrun, ⟨fun e => (by cases e), fun _ => ⟨g', c', e3, hin⟩⟩, fun e => (by cases e)⟩
theorem row_made {w : World} {B : Base} {b : Nat} {r : List Int} (hl : r.length = 512) (hg : w.heap[b]? = some (.cells (btV r).toArray 5)) (hB : B.lo ≤ b) (hX : ¬ B.off b) : RowAt w B (.slice (some ⟨b, 0, none⟩) 512 512) r := by
  have e : (btV r).length = 512 := by rw [btV_len]; exact hl
  refine ⟨⟨by rw [hl, e], .inr ⟨b, 512, _, by rw [hl], hB, hg, by omega, by unfold maxLen; omega, by simp [e], by rw [List.take_of_length_le (by simp [e, hl])]⟩⟩, by omega, fun b' hb' => by injection hb' with hb'; rw [← hb']; exact hX⟩
set_option maxHeartbeats 4000000 in
theorem sector_any (h g : Nat) (k : Nat) (w : World) (B : Base) (N : Nat) (d : Dk) (hk : k < d.many) (hh : w.cell? ⟨h, 0, none⟩ = some (.pointer (some ⟨g, 0, none⟩))) (hb : BoxAt w B g d N) :
    Calls Tryd.prog 57 #[.pointer (some ⟨h, 0, none⟩), .int .i64 (k : Int)] w fun e w' => ∃ v, e = .returned v ∧ RowAt w' w.heap.size v (d.look k) ∧ Below w.heap.size w w' := by
  obtain ⟨hok, s, hb⟩ := hb
  obtain ⟨q0, q1, q2, q3, q4, q5, q6, q7⟩ := boxC_get d s.sb s.nb s.wv
  have c0 := (hb.cells 0).trans q0
  have hm := hb.many
  have hmk : ∀ w : World, (Instr.makeSlice 22 (.int .i64 512) (.int .i64 512)).run Tryd.prog w = .ok (.slice (some ⟨w.heap.size, 0, none⟩) 512 512) (w.alloc (.cells (zeroV 512).toArray 5)) := fun w => by have := make_zero 512 (by omega) w; simpa using this
  have HB := Lib.hid (hb.then_ (below1 w (.cells (zeroV 512).toArray 5)))
  have hh1 := ((below1 w (.cells (zeroV 512).toArray 5)).cell (p := ⟨h, 0, none⟩) (cell_lt hh)).trans hh
  have c2 := (HB.out.cells 2).trans q2
  obtain ⟨v, full, hrun, hf, hz⟩ := HB.out.found k hk
  have HF := Lib.hid (And.intro hf hz)
  have HL := Lib.hid (hok.look_len k)
  clear q0 q1 q2 q3 q4 q5 q6 q7 hf hz hb
  have hlt : ¬ ((d.many : Int) ≤ (k : Int)) := by omega
  cases full
  · obtain rfl := HF.out.1.none_ rfl
    go_enter Tryd.func57, Tryd.ntmps57
    go_wp2_with (show wpList _ _ _ (⟨some 30, _, _, _, _, _⟩ :: _) _ _; refine wpList_copy_splice (o := ⟨some 30, _, _, _, _, _⟩) rfl (.tmp 20) (.tmp 29) 22 22 rfl 5 Tryd.underlying22 size_byte' _ _ _ _ _ _ rfl rfl w.heap.size 0 (zeroV 512) 5 (heap_alloc_new w _) (btV []) (Nat.zero_min _).symm (fun hp => absurd hp (by simp [btV])) (by simp [btV]) (btV_one []) w.heap.size w (below1 w _) (Nat.le_refl _) ?_; intro w2 hg2 hb2; have HG2 := Lib.hid hg2; have HB2 := Lib.hid hb2; clear hg2 hb2)
    go_ret
    refine ⟨_, rfl, ?_, HB2.out⟩
    have e := HG2.out
    rw [splice_none] at e
    rw [HF.out.2 trivial]
    exact row_made zeroRow_len e (Nat.le_refl _) (by simp)
  · obtain ⟨g2, c3, rfl, hin⟩ := HF.out.1.some_ rfl
    have HI := Lib.hid hin
    have HS := Lib.hid (splice_row (d.look k) 512 HL.out)
    clear hin
    go_enter Tryd.func57, Tryd.ntmps57
    go_wp2_with (show wpList _ _ _ (⟨some 30, _, _, _, _, _⟩ :: _) _ _; refine wpList_copy_splice (o := ⟨some 30, _, _, _, _, _⟩) rfl (.tmp 20) (.tmp 29) 22 22 rfl 5 Tryd.underlying22 size_byte' _ _ _ _ _ _ rfl rfl w.heap.size 0 (zeroV 512) 5 (heap_alloc_new w _) (btV (d.look k)) (by rw [btV_len, HL.out]; exact (Nat.min_self _).symm) (fun hp => ⟨rfl, HI.out.src (Below.refl _ _) (by rw [HL.out]; omega)⟩) (by rw [btV_len, HL.out, zeroV_len]; omega) (btV_one _) w.heap.size w (below1 w _) (Nat.le_refl _) ?_; intro w2 hg2 hb2; have HG2 := Lib.hid hg2; have HB2 := Lib.hid hb2; clear hg2 hb2)
    go_wp2_with fail
    go_ret
    refine ⟨_, rfl, ?_, HB2.out⟩
    have e := HG2.out
    rw [HS.out] at e
    exact row_made HL.out e (Nat.le_refl _) (by simp)
end Go.Proofs.YtophhnolnlbecaaDoor
