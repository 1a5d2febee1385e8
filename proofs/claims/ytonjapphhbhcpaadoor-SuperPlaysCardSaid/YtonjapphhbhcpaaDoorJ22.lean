/- The number of an error: api.Number, and errors.As at a target of that type, by its contract. The steps on a disk of layer 14's statements: as they lie. Arguments that are superblocks, numbers' rows, bools, rows of layer 14's steps: opened and read again. No statement is proved here. -/
import Derived.Test.YtonjapphhbhcpaaDoorDBlk3
import Derived.LaidEql
import Derived.Stop.Asserts
import Derived.RowKitTokens
import Derived.Test.YtonjapphhbhcpaaDoorUEnvD
import Derived.Test.YtonjapphhbhcpaaDoorURef6
import Derived.Test.YtonjapphhbhcpaaDoorJ7
import Derived.Test.YtonjapphhbhcpaaDoorJ19
import Derived.Test.YtonjapphhbhcpaaDoorYI
namespace Go.Proofs.YtonjapphhbhcpaaDoor
open Go.RowKit Go.Extern.Stop Go.Stop Go.Extern
set_option maxRecDepth 100000

theorem nvalueOf (t : Addr) (w : World) : (ReflectliteValue.unpack (.iface 110 (.pointer (some t)))).run Tryd.prog w
    = .ok (.agg #[.pointer (some ⟨2, 110, none⟩), .pointer (some ⟨w.heap.size, 0, none⟩), .int .u64 150]) (w.alloc (.cells #[.pointer (some t)] 110)) := by kernel_rfl
theorem ntype (a : Addr) (w : World) : (ReflectliteValue.methodAny (ReflectliteValue.valueError "reflectlite.Value.Type" 0) (fun t _ _ _ => ReflectliteType.toType t) #[.agg #[.pointer (some ⟨2, 110, none⟩), .pointer (some a), .int .u64 150]]).run Tryd.prog w
    = .ok (.iface 145 (.agg #[.pointer (some ⟨2, 110, none⟩)])) w := by kernel_rfl
theorem nmethodKind (h : Value) (w : World) : (Go.method 287 145 (.agg #[h]) "Kind").run Tryd.prog w = .ok (107, h) w := by kernel_rfl
theorem nkindP (w : World) : ((ReflectliteType.abiMethod fun t => (fun a : Nat => Value.int IntKind.u8 (a : Int)) <$> Rtype.kind t) #[.pointer (some ⟨2, 110, none⟩)]).run Tryd.prog w = .ok (.int .u8 22) w := by kernel_rfl
theorem nkindE (w : World) : ((ReflectliteType.abiMethod fun t => (fun a : Nat => Value.int IntKind.u8 (a : Int)) <$> Rtype.kind t) #[.pointer (some ⟨2, 26, none⟩)]).run Tryd.prog w = .ok (.int .u8 2) w := by kernel_rfl
theorem nrlm (z : Sem Value) (f : TypeId → Addr → Nat → Nat → Sem Value) (v : Value) :
    ReflectliteValue.method z f #[v] = (do match ← ReflectliteValue.parts v with | none => z | some (t, a, fl) => f t a fl (fl % 32)) := rfl
theorem npartsP (a : Addr) (w : World) : (ReflectliteValue.parts (.agg #[.pointer (some ⟨2, 110, none⟩), .pointer (some a), .int .u64 150])).run Tryd.prog w = .ok (some (110, a, 150)) w := by kernel_rfl
theorem nisNil (a p : Addr) (W : World) (ha : W.cell? a = some (.pointer (some p))) :
    (ReflectliteValue.method (ReflectliteValue.valueError "reflectlite.Value.IsNil" 0) ReflectliteValue.isNil #[.agg #[.pointer (some ⟨2, 110, none⟩), .pointer (some a), .int .u64 150]]).run Tryd.prog W = .ok (.bool false) W := by
  rw [nrlm]
  simp only [Sem.run_bind, npartsP, Result.andThen]
  simp [ReflectliteValue.isNil, loadVar, isAgg, underlying, Tryd.underlying110, ha, Result.andThen]
theorem nmethodElem (h : Value) (w : World) : (Go.method 287 145 (.agg #[h]) "Elem").run Tryd.prog w = .ok (118, .agg #[h]) w := by kernel_rfl
theorem nmethodImplements (h : Value) (w : World) : (Go.method 287 145 (.agg #[h]) "Implements").run Tryd.prog w = .ok (119, .agg #[h]) w := by kernel_rfl
theorem nmethodAssignableTo (h : Value) (w : World) : (Go.method 287 145 (.agg #[h]) "AssignableTo").run Tryd.prog w = .ok (116, .agg #[h]) w := by kernel_rfl
theorem nelem (w : World) : (ReflectliteType.method ReflectliteType.elem #[.agg #[.pointer (some ⟨2, 110, none⟩)]]).run Tryd.prog w = .ok (.iface 145 (.agg #[.pointer (some ⟨2, 26, none⟩)])) w := by kernel_rfl
theorem nimplements (w : World) : (ReflectliteType.relation "Implements" ReflectliteType.implements_ #[.agg #[.pointer (some ⟨2, 26, none⟩)], .iface 145 (.agg #[.pointer (some ⟨2, 50, none⟩)])]).run Tryd.prog w = .ok (.bool true) w := by kernel_rfl
theorem ntypeOf (v : Value) (w : World) : (ReflectliteType.typeOf #[.iface 26 v]).run Tryd.prog w = .ok (.iface 145 (.agg #[.pointer (some ⟨2, 26, none⟩)])) w := by kernel_rfl
theorem nassignable (w : World) : (ReflectliteType.relation "AssignableTo" ReflectliteType.assignableTo #[.agg #[.pointer (some ⟨2, 26, none⟩)], .iface 145 (.agg #[.pointer (some ⟨2, 26, none⟩)])]).run Tryd.prog w = .ok (.bool true) w := by kernel_rfl
theorem nvalueOfE (n : Int) (w : World) : (ReflectliteValue.unpack (.iface 26 (.int .i64 n))).run Tryd.prog w
    = .ok (.agg #[.pointer (some ⟨2, 26, none⟩), .pointer (some ⟨w.heap.size, 0, none⟩), .int .u64 130]) (w.alloc (.cells #[.int .i64 n] 26)) := by kernel_rfl
theorem nelemOf (w : World) : (Rtype.elem? 110).run Tryd.prog w = .ok (some 26) w := by kernel_rfl
theorem nmkE (p : Addr) (w : World) : (ReflectliteValue.mk 26 p ReflectliteValue.flagAddr).run Tryd.prog w = .ok (.agg #[.pointer (some ⟨2, 26, none⟩), .pointer (some p), .int .u64 386]) w := by kernel_rfl
theorem nelemV (a p : Addr) (W : World) (ha : W.cell? a = some (.pointer (some p))) :
    (ReflectliteValue.method (ReflectliteValue.valueError "reflectlite.Value.Elem" 0) ReflectliteValue.elem #[.agg #[.pointer (some ⟨2, 110, none⟩), .pointer (some a), .int .u64 150]]).run Tryd.prog W
      = .ok (.agg #[.pointer (some ⟨2, 26, none⟩), .pointer (some p), .int .u64 386]) W := by
  rw [nrlm]
  simp only [Sem.run_bind, npartsP, Result.andThen]
  simp [ReflectliteValue.elem, loadVar, isAgg, underlying, Tryd.underlying110, ha, Result.andThen, nelemOf, nmkE]
theorem nrls (v x : Value) : ReflectliteValue.set #[v, x] = (do
    let (some (dst, a, fl), some (src, b, _)) := (← ReflectliteValue.parts v, ← ReflectliteValue.parts x)
      | unsupported (.noEntry "extern/(internal/reflectlite.Value).Set.zeroValue")
    if fl / ReflectliteValue.flagAddr % 2 == 0 then unsupported (.noEntry "extern/(internal/reflectlite.Value).Set.unaddressable")
    let val ← loadVar src b
    if ← Rtype.directlyAssignable dst src then storeVar dst a val
    else if ← Rtype.implements dst src then
      if (← Rtype.kind src) == 20 then
        match val with
        | .nilIface => unsupported (.noEntry "extern/reflectlite: a nil value of one interface type handed on as a value of another")
        | _ => storeVar dst a val
      else storeVar dst a (.iface src val)
    else panicString ("reflectlite.Set: value of type " ++ (← Rtype.spelt src) ++ " is not assignable to type " ++ (← Rtype.spelt dst))
    pure (.tuple #[])) := rfl
theorem npartsA (a : Addr) (w : World) : (ReflectliteValue.parts (.agg #[.pointer (some ⟨2, 26, none⟩), .pointer (some a), .int .u64 386])).run Tryd.prog w = .ok (some (26, a, 386)) w := by kernel_rfl
theorem npartsE (a : Addr) (w : World) : (ReflectliteValue.parts (.agg #[.pointer (some ⟨2, 26, none⟩), .pointer (some a), .int .u64 130])).run Tryd.prog w = .ok (some (26, a, 130)) w := by kernel_rfl
theorem ndirect (w : World) : (Rtype.directlyAssignable 26 26).run Tryd.prog w = .ok true w := by kernel_rfl
theorem nset (ta b : Addr) (n : Int) (old : Value) (W : World) (hb : W.cell? b = some (.int .i64 n)) (ht : W.cell? ta = some old) (hf : W.frozen? ta = false) :
    (ReflectliteValue.set #[.agg #[.pointer (some ⟨2, 26, none⟩), .pointer (some ta), .int .u64 386], .agg #[.pointer (some ⟨2, 26, none⟩), .pointer (some b), .int .u64 130]]).run Tryd.prog W
      = .ok (.tuple #[]) (W.setCell ta (.int .i64 n)) := by
  rw [nrls]
  simp only [Sem.run_bind, npartsA, npartsE, Result.andThen]
  simp [ReflectliteValue.flagAddr, loadVar, isAgg, underlying, Tryd.underlying26, hb, Result.andThen, ndirect, storeVar, Value.cells, storeCells, Addr.add]
  rw [run_store Tryd.prog W ta _ _ (by rfl)]
  simp [ht, hf]
set_option maxHeartbeats 4000000 in
theorem nas_hit (n : Int) (t : Addr) (old : Value) (w : World) (hg : w.cell? ⟨0, 0, none⟩ = some (.iface 145 (.agg #[.pointer (some ⟨2, 50, none⟩)]))) (ht0 : w.cell? t = some old) (hf0 : w.frozen? t = false) :
    Calls Tryd.prog 63 #[.iface 26 (.int .i64 n), .iface 110 (.pointer (some t))] w fun ev w' => ev = .returned (.bool true) ∧ w' = ((((w.alloc (.cells #[.pointer (some t)] 110)).alloc (.cells #[.pointer (some ⟨2, 110, none⟩), .pointer (some ⟨w.heap.size, 0, none⟩), .int .u64 150] 128)).alloc (.cells #[.pointer (some ⟨2, 110, none⟩), .pointer (some ⟨w.heap.size, 0, none⟩), .int .u64 150] 128)).alloc (.cells #[.int .i64 n] 26)).setCell t (.int .i64 n) := by
  have h6 := @run_callFunc_extern Tryd.prog 79 _ (fun args => ReflectliteValue.unpack (args.getD 0 (.tuple #[]))) Tryd.func79 (by kernel_rfl) (by kernel_rfl) (by kernel_rfl) (by kernel_rfl)
  have h7 := @run_callFunc_extern Tryd.prog 80 _ (ReflectliteValue.methodAny (ReflectliteValue.valueError "reflectlite.Value.Type" 0) (fun t _ _ _ => ReflectliteType.toType t)) Tryd.func80 (by kernel_rfl) (by kernel_rfl) (by kernel_rfl) (by kernel_rfl)
  have h8 := @run_callFunc_extern Tryd.prog 81 _ (ReflectliteValue.method (ReflectliteValue.valueError "reflectlite.Value.IsNil" 0) ReflectliteValue.isNil) Tryd.func81 (by kernel_rfl) (by kernel_rfl) (by kernel_rfl) (by kernel_rfl)
  have h27 := @run_callFunc_extern Tryd.prog 107 _ (ReflectliteType.abiMethod fun t => do pure (.int .u8 (← Rtype.kind t))) Tryd.func107 (by kernel_rfl) (by kernel_rfl) (by kernel_rfl) (by kernel_rfl)
  have h37 := @run_callFunc_extern Tryd.prog 118 _ (ReflectliteType.method ReflectliteType.elem) Tryd.func118 (by kernel_rfl) (by kernel_rfl) (by kernel_rfl) (by kernel_rfl)
  have h38 := @run_callFunc_extern Tryd.prog 119 _ (ReflectliteType.relation "Implements" ReflectliteType.implements_) Tryd.func119 (by kernel_rfl) (by kernel_rfl) (by kernel_rfl) (by kernel_rfl)
  have h10 := @run_callFunc_extern Tryd.prog 90 _ ReflectliteType.typeOf Tryd.func90 (by kernel_rfl) (by kernel_rfl) (by kernel_rfl) (by kernel_rfl)
  have h35 := @run_callFunc_extern Tryd.prog 116 _ (ReflectliteType.relation "AssignableTo" ReflectliteType.assignableTo) Tryd.func116 (by kernel_rfl) (by kernel_rfl) (by kernel_rfl) (by kernel_rfl)
  have h11 := @run_callFunc_extern Tryd.prog 91 _ (ReflectliteValue.method (ReflectliteValue.valueError "reflectlite.Value.Elem" 0) ReflectliteValue.elem) Tryd.func91 (by kernel_rfl) (by kernel_rfl) (by kernel_rfl) (by kernel_rfl)
  have h12 := @run_callFunc_extern Tryd.prog 92 _ ReflectliteValue.set Tryd.func92 (by kernel_rfl) (by kernel_rfl) (by kernel_rfl) (by kernel_rfl)
  have tO := ntypeOf
  have mA := nmethodAssignableTo
  have a25 := nassignable
  have v25 := nvalueOfE
  have f6 := nvalueOf
  have f7 := ntype
  have mK := nmethodKind
  have mE := nmethodElem
  have mI := nmethodImplements
  have k27 := nkindP
  have k25 := nkindE
  have e27 := nelem
  have i25 := nimplements
  have n8 := nisNil ⟨w.heap.size, 0, none⟩ t ((w.alloc (.cells #[.pointer (some t)] 110)).alloc (.cells #[.pointer (some ⟨2, 110, none⟩), .pointer (some ⟨w.heap.size, 0, none⟩), .int .u64 150] 128)) (by simp)
  have hlt : 0 < w.heap.size := cell_lt hg
  have hg2 : ((w.alloc (.cells #[.pointer (some t)] 110)).alloc (.cells #[.pointer (some ⟨2, 110, none⟩), .pointer (some ⟨w.heap.size, 0, none⟩), .int .u64 150] 128)).cell? ⟨0, 0, none⟩ = some (.iface 145 (.agg #[.pointer (some ⟨2, 50, none⟩)])) := by
    rw [World.cell?_alloc_lt _ _ ⟨0, 0, none⟩ (Nat.lt_of_lt_of_le hlt (by simp)), World.cell?_alloc_lt _ _ ⟨0, 0, none⟩ hlt]; exact hg
  have htl : t.block < w.heap.size := by
    rcases Nat.lt_or_ge t.block w.heap.size with h | h
    · exact h
    · simp [World.cell?, Array.getElem?_eq_none h] at ht0
  have el := nelemV ⟨w.heap.size, 0, none⟩ t (((w.alloc (.cells #[.pointer (some t)] 110)).alloc (.cells #[.pointer (some ⟨2, 110, none⟩), .pointer (some ⟨w.heap.size, 0, none⟩), .int .u64 150] 128)).alloc (.cells #[.pointer (some ⟨2, 110, none⟩), .pointer (some ⟨w.heap.size, 0, none⟩), .int .u64 150] 128)) (by rw [World.cell?_alloc_lt _ _ ⟨w.heap.size, 0, none⟩ (by simp; omega)]; simp)
  have st := nset t ⟨w.heap.size + 1 + 1 + 1, 0, none⟩ n old ((((w.alloc (.cells #[.pointer (some t)] 110)).alloc (.cells #[.pointer (some ⟨2, 110, none⟩), .pointer (some ⟨w.heap.size, 0, none⟩), .int .u64 150] 128)).alloc (.cells #[.pointer (some ⟨2, 110, none⟩), .pointer (some ⟨w.heap.size, 0, none⟩), .int .u64 150] 128)).alloc (.cells #[.int .i64 n] 26))
    (by rw [World.cell?_alloc_at _ _ _ _ (by simp)]; rfl)
    (by rw [World.cell?_alloc_lt _ _ t (by simp; omega), World.cell?_alloc_lt _ _ t (by simp; omega), World.cell?_alloc_lt _ _ t (by simp; omega), World.cell?_alloc_lt _ _ t htl]; exact ht0)
    (by rw [World.frozen?_alloc_old _ _ t (by simp; omega), World.frozen?_alloc_old _ _ t (by simp; omega), World.frozen?_alloc_old _ _ t (by simp; omega), World.frozen?_alloc_old _ _ t (Nat.ne_of_lt htl)]; exact hf0)
  go_enter Tryd.func63, Tryd.ntmps63
  go_wp2
  refine wp_loop_rounds 1 ?_
  rw [rounds_succ]
  go_wp2
  go_ret
  exact ⟨rfl, rfl⟩
/-- The cell of errors.errorType, as it must lie. -/
def ErrT (w : World) : Prop := w.cell? ⟨0, 0, none⟩ = some (.iface 145 (.agg #[.pointer (some ⟨2, 50, none⟩)]))
set_option maxHeartbeats 4000000 in
theorem number_any (n : Int) (w : World) (hg : ErrT w) : Calls Tryd.prog 42 #[errV n] w fun e w' => e = .returned (.int .i64 n) ∧ Below w.heap.size w w' := by
  by_cases h0 : n = 0
  · subst h0
    rw [errV_zero]
    go_enter Tryd.func42, Tryd.ntmps42
    go_wp2_with fail
    go_ret
    exact ⟨rfl, below1 _ _⟩
  · rw [errV_mk h0]
    have HA := Lib.hid (nas_hit n ⟨w.heap.size, 0, none⟩ (.int .i64 0) (w.alloc (.cells #[.int .i64 0] 26)) (((below1 w _).cell (p := ⟨0, 0, none⟩) (cell_lt hg)).trans hg) (by simp) (by unfold World.frozen?; rw [heap_alloc_new]; rfl))
    clear hg
    go_enter Tryd.func42, Tryd.ntmps42
    go_wp2_with fail
    refine HA.out.mono ?_
    rintro e w1 ⟨rfl, hw⟩
    have h4 : ∀ a b c d : Obj, Below (w.alloc (.cells #[.int .i64 0] 26)).heap.size (w.alloc (.cells #[.int .i64 0] 26)) (((((w.alloc (.cells #[.int .i64 0] 26)).alloc a).alloc b).alloc c).alloc d) := fun a b c d => (((below1 _ a).alloc (by simp) b).alloc (by simp) c).alloc (by simp) d
    have hb : Below w.heap.size w w1 := by
      rw [hw]
      exact ((below1 w _).trans ((h4 _ _ _ _).mono (by simp))).setCell (Nat.le_refl _) _
    have hc : w1.cell? ⟨w.heap.size, 0, none⟩ = some (.int .i64 n) := by
      rw [hw]
      have h5 := fun a b c d => ((h4 a b c d).block w.heap.size (by simp)).trans (heap_alloc_new w (.cells #[.int .i64 0] 26))
      simp only [World.cell?, World.setCell, Array.getElem?_modify, h5]
      simp
    clear hw
    go_wp2_with fail
    go_ret
    exact ⟨rfl, hb⟩
end Go.Proofs.YtonjapphhbhcpaaDoor
namespace Go.Proofs.YtonjapphhbhcpaaDoor
open Go.RowKit
set_option maxRecDepth 100000

/-- A step, with where its rows lie. -/
structure OpU where
  act : Int
  n : Int
  s : Sup
  ba : Option Addr
  bc : Nat
  bl : List Int
  more : Bool
  ka : Option Addr
  kc : Nat
  kl : List Bool
def OpU.cells (o : OpU) : List Value := [.int .i64 o.act, .int .i64 o.n, .int .i64 o.s.ver, .int .i64 o.s.root, .int .i64 o.s.ep, .int .i64 o.s.pag, .slice o.ba o.bl.length o.bc, .bool o.more, .slice o.ka o.kl.length o.kc]
structure OpU.In (W : World) (o : OpU) : Prop where
  act : okInt o.act
  n : okInt o.n
  s : o.s.In
  inB : InB W o.ba o.bl
  byte : isB o.bl
  bLen : o.bl.length ≤ o.bc ∧ o.bc ≤ 140737488351232
  bNil : o.ba = none → o.bc = 0
  inK : InK W W.heap.size o.ka o.kl
  kLen : o.kl.length ≤ o.kc ∧ o.kc ≤ 140737488351232
/-- A row of them. -/
def InOU (w : World) (a : Option Addr) (l : List OpU) : Prop := ∀ i x, l[i]? = some x → ∃ b o, a = some ⟨b, o, none⟩ ∧ ∀ j c, x.cells[j]? = some c → w.cell? ⟨b, o + i * 9 + j, none⟩ = some c
/-- Where the law stands: both disks. -/
structure QSt (W w : World) (bx hx gx br gr N : Nat) (d : Dk) : Prop where
  box : BoxAt w bx gx d N
  hand : w.heap[hx]? = some (.cells #[.pointer (some ⟨gx, 0, none⟩)] 80)
  ref : RefAt w br gr d N
  bytes : d.allB
  below : Below W.heap.size W w
  wb : W.heap.size ≤ bx
  wr : W.heap.size ≤ br
theorem handS_TR {cur : Array Value} {fr : Nat × Nat} : ¬ TR (.cells cur 80 fr) := by
  show ¬ ((80 : Nat) = 83 ∨ (80 : Nat) = 88)
  decide
theorem opU_TB {cur : Array Value} {fr : Nat × Nat} : ¬ TB (.cells cur 45 fr) := by
  show ¬ ((45 : Nat) = 78 ∨ (45 : Nat) = 95)
  decide
theorem opU_TR {cur : Array Value} {fr : Nat × Nat} : ¬ TR (.cells cur 45 fr) := by
  show ¬ ((45 : Nat) = 83 ∨ (45 : Nat) = 88)
  decide
section
variable {W w w' : World} {bx hx gx br gr N N' : Nat} {d d' : Dk}
theorem QSt.then_ (s : QSt W w bx hx gx br gr N d) (hb : Below w.heap.size w w') : QSt W w' bx hx gx br gr N d :=
  { box := s.box.then_ hb, hand := (hb.block _ (lt_of_block s.hand)).trans s.hand, ref := s.ref.then_ hb, bytes := s.bytes, below := s.below.trans (hb.mono s.below.size), wb := s.wb, wr := s.wr }
theorem QSt.size (s : QSt W w bx hx gx br gr N d) : bx ≤ w.heap.size ∧ br ≤ w.heap.size := by
  have h1 := s.box.lt
  have h2 := s.ref.lt
  have h3 : bx ≤ gx := h1.1
  omega
/-- First the one disk, then the other. -/
theorem QSt.both (s : QSt W w bx hx gx br gr N d) {w1 w2 w3 : World} (ht : Turns TB bx w w1) (hb : BoxAt w1 bx gx d' N') (h12 : Below w1.heap.size w1 w2) (tr : Turns TR br w2 w3) (hr : RefAt w3 br gr d' N') (ha : d'.allB) : QSt W w3 bx hx gx br gr N' d' :=
  { box := (hb.then_ h12).turnsR tr
    hand := tr.block _ _ ((h12.block _ (lt_of_block (ht.block _ _ s.hand handS_TB))).trans (ht.block _ _ s.hand handS_TB)) handS_TR
    ref := hr
    bytes := ha
    below := ((s.below.trans (ht.below.mono s.wb)).trans (h12.mono (Nat.le_trans s.below.size ht.size))).trans (tr.below.mono s.wr)
    wb := s.wb
    wr := s.wr }
end
theorem opU_cells {w : World} {g : Nat} {o : OpU} (h : w.heap[g]? = some (.cells #[.int .i64 o.act, .int .i64 o.n, .int .i64 o.s.ver, .int .i64 o.s.root, .int .i64 o.s.ep, .int .i64 o.s.pag, .slice o.ba o.bl.length o.bc, .bool o.more, .slice o.ka o.kl.length o.kc] 45)) :
    (w.cell? ⟨g, 1, none⟩ = some (.int .i64 o.n) ∧ w.cell? ⟨g, 6, none⟩ = some (.slice o.ba o.bl.length o.bc) ∧ w.cell? ⟨g, 7, none⟩ = some (.bool o.more) ∧ w.cell? ⟨g, 8, none⟩ = some (.slice o.ka o.kl.length o.kc)) ∧
    (w.cell? ⟨g, 2, none⟩ = some (.int .i64 o.s.ver) ∧ w.cell? ⟨g, 3, none⟩ = some (.int .i64 o.s.root) ∧ w.cell? ⟨g, 4, none⟩ = some (.int .i64 o.s.ep) ∧ w.cell? ⟨g, 5, none⟩ = some (.int .i64 o.s.pag)) :=
  ⟨⟨row_cells h 1, row_cells h 6, row_cells h 7, row_cells h 8⟩, row_cells h 2, row_cells h 3, row_cells h 4, row_cells h 5⟩
theorem ErrTU.then_ {W w : World} (h : ErrT W) (hb : Below W.heap.size W w) : ErrT w := (hb.cell (p := ⟨0, 0, none⟩) (cell_lt h)).trans h
end Go.Proofs.YtonjapphhbhcpaaDoor
namespace Go.Proofs.YtonjapphhbhcpaaDoor
open Go.RowKit Go.ChangeShapes Go.WideShapes Go.ChangeAt Go.Shelf Go.Lib
set_option maxRecDepth 100000

theorem cells_bool : Tryd.prog.cellsOf 4 = 1 := by kernel_rfl
theorem bytes_bool : Tryd.prog.bytesOf 4 = 1 := by kernel_rfl
theorem bytes_int : Tryd.prog.bytesOf 3 = 8 := by kernel_rfl
theorem cells_sup : Tryd.prog.cellsOf 23 = 4 := by kernel_rfl
theorem cells_op : Tryd.prog.cellsOf 45 = 9 := by kernel_rfl
theorem cells_bytes : Tryd.prog.cellsOf 24 = 1 := by kernel_rfl
theorem cells_bools : Tryd.prog.cellsOf 43 = 1 := by kernel_rfl
section
variable {H : Type} {enc : TypeId × Value → H} {W : World}
theorem open_supL {held : Bool} {fuel : Nat} {cs : List Value} {x : DataW H × List MemPlace} (h : DataW.trod enc Tryd.prog W 0 (fun _ => true) held fuel 23 cs = some x) : ∃ s : Sup, cs = [.int .i64 s.ver, .int .i64 s.root, .int .i64 s.ep, .int .i64 s.pag] ∧ s.In := by
  obtain ⟨xs, n, rfl, rfl, hlen, hxl, hf⟩ := DataW.trod_struct Tryd.underlying23 h
  rw [cells_sup] at hlen
  match cs, hlen with
  | [c0, c1, c2, c3], _ =>
  match xs, hxl with
  | [y0, y1, y2, y3], _ =>
  have h0 : DataW.trod enc Tryd.prog W 0 (fun _ => true) held n 3 (([c0, c1, c2, c3].drop 0).take (Tryd.prog.cellsOf 3)) = some y0 := hf 0 _ rfl
  have h1 : DataW.trod enc Tryd.prog W 0 (fun _ => true) held n 3 (([c0, c1, c2, c3].drop 1).take (Tryd.prog.cellsOf 3)) = some y1 := hf 1 _ rfl
  have h2 : DataW.trod enc Tryd.prog W 0 (fun _ => true) held n 3 (([c0, c1, c2, c3].drop 2).take (Tryd.prog.cellsOf 3)) = some y2 := hf 2 _ rfl
  have h3 : DataW.trod enc Tryd.prog W 0 (fun _ => true) held n 3 (([c0, c1, c2, c3].drop 3).take (Tryd.prog.cellsOf 3)) = some y3 := hf 3 _ rfl
  rw [cells_int] at h0 h1 h2 h3
  obtain ⟨m0, e0, -, w0⟩ := DataW.trod_int Tryd.underlying3 h0
  obtain ⟨m1, e1, -, w1⟩ := DataW.trod_int Tryd.underlying3 h1
  obtain ⟨m2, e2, -, w2⟩ := DataW.trod_int Tryd.underlying3 h2
  obtain ⟨m3, e3, -, w3⟩ := DataW.trod_int Tryd.underlying3 h3
  simp at e0 e1 e2 e3
  subst e0 e1 e2 e3
  exact ⟨⟨m0, m1, m2, m3⟩, rfl, wf_okInt w0, wf_okInt w1, wf_okInt w2, wf_okInt w3⟩
theorem open_sup {r : Reach} {base : Nat} {v : Value} {d : DataW H} {p : List MemPlace} (hv : Value.okWide Tryd.prog W r base 23 v) (h : DataW.Trod enc Tryd.prog W 0 (fun _ => true) true 23 v d p) : ∃ s : Sup, v = s.arg ∧ s.In := by
  obtain ⟨cs, rfl, hs⟩ := okWide_struct Tryd.underlying23 hv
  obtain ⟨fuel, hf⟩ := h
  obtain ⟨s, e, hi⟩ := open_supL hf
  refine ⟨s, ?_, hi⟩
  have e : cs.toList = [.int .i64 s.ver, .int .i64 s.root, .int .i64 s.ep, .int .i64 s.pag] := e
  obtain ⟨l⟩ := cs
  have e : l = [.int .i64 s.ver, .int .i64 s.root, .int .i64 s.ep, .int .i64 s.pag] := e
  subst e
  rfl
theorem back_sup {W' : World} {v : Value} {d : DataW H} {p : List MemPlace} (h : DataW.Trod enc Tryd.prog W 0 (fun _ => true) true 23 v d p) (hb : Below W.heap.size W W') (hlt : ∀ x ∈ p, x.block < W.heap.size) :
    DataW.Trod enc Tryd.prog W' 0 (fun b => decide (b < W.heap.size)) true 23 v d p :=
  Below.trod laid_out (by kernel_rfl) (of_decide_eq_true (by kernel_rfl)) h hb hlt
theorem open_bool {r : Reach} {base : Nat} {v : Value} {d : DataW H} {p : List MemPlace} (hv : Value.okWide Tryd.prog W r base 4 v) (h : DataW.Trod enc Tryd.prog W 0 (fun _ => true) true 4 v d p) : ∃ b, v = .bool b := okWide_bool Tryd.underlying4 hv
theorem back_bool {W' : World} {v : Value} {d : DataW H} {p : List MemPlace} (h : DataW.Trod enc Tryd.prog W 0 (fun _ => true) true 4 v d p) (hb : Below W.heap.size W W') (hlt : ∀ x ∈ p, x.block < W.heap.size) :
    DataW.Trod enc Tryd.prog W' 0 (fun b => decide (b < W.heap.size)) true 4 v d p :=
  Below.trod laid_out (by kernel_rfl) (of_decide_eq_true (by kernel_rfl)) h hb hlt
theorem open_boolsL {cs : List Value} {y : DataW H × List MemPlace} {held : Bool} (n : Nat) (h3 : DataW.trod enc Tryd.prog W 0 (fun _ => true) held n 43 cs = some y) (w3 : reached (y.1.weights Tryd.prog 43)) :
    ∃ la lc l, cs = [.slice la (l : List Bool).length lc] ∧ InK W W.heap.size la l ∧ (l.length ≤ lc ∧ lc ≤ 140737488351232) ∧ (la = none → lc = 0) := by
  rcases DataW.trod_slice Tryd.underlying43 h3 with ⟨hc, -⟩ | ⟨a, len, cap, elems, rest, n2, rfl, hc, hx, -, hl, -, hel, hi, hsp, -⟩
  · exact ⟨none, 0, [], hc, fun i x hx => by simp at hx, by simp, by simp⟩
  · have e3 := congrArg Prod.fst (Option.some.inj (Eq.symm (show some (_ : DataW H × List MemPlace) = some y from (congrArg some hx.symm))))
    simp only at e3
    rw [e3] at w3
    simp only [DataW.weights, Tryd.underlying43, reached_cons, reached_append] at w3
    obtain ⟨wc, we, -⟩ := w3
    have hcap : okLen (cap * 1) := by
      have := (hsp rfl).1
      simp only [List.length_map, hel, this, bytes_bool] at wc
      rw [show len + (cap - len) = cap by omega] at wc
      exact wc
    obtain ⟨l, hll, hin, -⟩ := in_row (W := W) (a := a) (n := len) (Q := fun _ : Bool => True) (f := Value.bool) (fun i hil => by
      have e := hi i hil
      have hg : elems[i]? = some (elems[i]'(by omega)) := List.getElem?_eq_getElem (by omega)
      rw [hg, Option.bind_eq_some_iff] at e
      obtain ⟨cs', hcs, ht⟩ := e
      rw [cells_bool] at hcs
      obtain ⟨_, hcl, hat⟩ := World.cells?_some hcs
      obtain ⟨x, e0, -⟩ := DataW.trod_bool Tryd.underlying4 ht
      have h2 := hat 0 (by omega)
      rw [e0] at h2
      exact ⟨x, by simpa [Addr.add] using h2, trivial⟩)
    refine ⟨some a, cap, l, by rw [hc, hll], fun i x hx => ?_, by unfold okLen at hcap; omega, by simp⟩
    obtain ⟨b, o, e, hc2⟩ := hin i x hx
    exact ⟨b, o, e, cell_lt hc2, hc2⟩
theorem open_bools {r : Reach} {base : Nat} {v : Value} {d : DataW H} {p : List MemPlace} (hv : Value.okWide Tryd.prog W r base 43 v) (h : DataW.Trod enc Tryd.prog W 0 (fun _ => true) true 43 v d p) (hw : reached (d.weights Tryd.prog 43)) :
    ∃ la lc l, v = .slice la (l : List Bool).length lc ∧ InK W W.heap.size la l ∧ (l.length ≤ lc ∧ lc ≤ 140737488351232) ∧ (la = none → lc = 0) := by
  obtain ⟨fuel, hf⟩ := h
  obtain ⟨la, lc, l, hc, h1⟩ := open_boolsL fuel hf hw
  obtain ⟨a, n, c, rfl⟩ := okWide_slice Tryd.underlying43 hv
  refine ⟨la, lc, l, ?_, h1⟩
  simpa [Value.cells] using hc
theorem back_bools {W' : World} {v : Value} {d : DataW H} {p : List MemPlace} (h : DataW.Trod enc Tryd.prog W 0 (fun _ => true) true 43 v d p) (hb : Below W.heap.size W W') (hlt : ∀ x ∈ p, x.block < W.heap.size) :
    DataW.Trod enc Tryd.prog W' 0 (fun b => decide (b < W.heap.size)) true 43 v d p :=
  Below.trod laid_out (by kernel_rfl) (of_decide_eq_true (by kernel_rfl)) h hb hlt
theorem reached_each {e : TypeId} {ds : List (DataW H)} (h : reached (DataW.weightsAll Tryd.prog e ds)) : ∀ d ∈ ds, reached (d.weights Tryd.prog e) := by
  induction ds with
  | nil => simp
  | cons d r ih =>
    rw [DataW.weightsAll, reached_append] at h
    intro x hx
    rcases List.mem_cons.1 hx with rfl | hx
    · exact h.1
    · exact ih h.2 x hx
theorem open_intsL {cs : List Value} {y : DataW H × List MemPlace} {held : Bool} (n : Nat) (h3 : DataW.trod enc Tryd.prog W 0 (fun _ => true) held n 59 cs = some y) (w3 : reached (y.1.weights Tryd.prog 59)) :
    ∃ la lc l, cs = [.slice la (l : List Int).length lc] ∧ InI W la l ∧ (∀ x ∈ l, okInt x) ∧ (l.length ≤ lc ∧ lc ≤ 17592186043904) ∧ (la = none → lc = 0) := by
  rcases DataW.trod_slice Tryd.underlying59 h3 with ⟨hc, -⟩ | ⟨a, len, cap, elems, rest, n2, rfl, hc, hx, -, hl, -, hel, hi, hsp, -⟩
  · exact ⟨none, 0, [], hc, InI.nil _ _, by simp, by simp, by simp⟩
  · have e3 := congrArg Prod.fst (Option.some.inj (Eq.symm (show some (_ : DataW H × List MemPlace) = some y from (congrArg some hx.symm))))
    simp only at e3
    rw [e3] at w3
    simp only [DataW.weights, Tryd.underlying59, reached_cons, reached_append] at w3
    obtain ⟨wc, we, -⟩ := w3
    have hcap : okLen (cap * 8) := by
      have := (hsp rfl).1
      simp only [List.length_map, hel, this, bytes_int] at wc
      rw [show len + (cap - len) = cap by omega] at wc
      exact wc
    obtain ⟨l, hll, hin, hok⟩ := in_row (W := W) (a := a) (n := len) (Q := okInt) (f := Value.int .i64) (fun i hil => by
      have e := hi i hil
      have hg : elems[i]? = some (elems[i]'(by omega)) := List.getElem?_eq_getElem (by omega)
      rw [hg, Option.bind_eq_some_iff] at e
      obtain ⟨cs', hcs, ht⟩ := e
      rw [cells_int] at hcs
      obtain ⟨_, hcl, hat⟩ := World.cells?_some hcs
      obtain ⟨x, e0, -, wx⟩ := DataW.trod_int Tryd.underlying3 ht
      have h2 := hat 0 (by omega)
      rw [e0] at h2
      exact ⟨x, by simpa [Addr.add] using h2, wf_okInt wx⟩)
    refine ⟨some a, cap, l, by rw [hc, hll], hin, hok, by unfold okLen at hcap; omega, by simp⟩
theorem open_ints {r : Reach} {base : Nat} {v : Value} {d : DataW H} {p : List MemPlace} (hv : Value.okWide Tryd.prog W r base 59 v) (h : DataW.Trod enc Tryd.prog W 0 (fun _ => true) true 59 v d p) (hw : reached (d.weights Tryd.prog 59)) :
    ∃ la lc l, v = .slice la (l : List Int).length lc ∧ InI W la l ∧ (∀ x ∈ l, okInt x) ∧ (l.length ≤ lc ∧ lc ≤ 17592186043904) ∧ (la = none → lc = 0) := by
  obtain ⟨fuel, hf⟩ := h
  obtain ⟨la, lc, l, hc, h1⟩ := open_intsL fuel hf hw
  obtain ⟨a, n, c, rfl⟩ := okWide_slice Tryd.underlying59 hv
  refine ⟨la, lc, l, ?_, h1⟩
  simpa [Value.cells] using hc
theorem back_ints {W' : World} {v : Value} {d : DataW H} {p : List MemPlace} (h : DataW.Trod enc Tryd.prog W 0 (fun _ => true) true 59 v d p) (hb : Below W.heap.size W W') (hlt : ∀ x ∈ p, x.block < W.heap.size) :
    DataW.Trod enc Tryd.prog W' 0 (fun b => decide (b < W.heap.size)) true 59 v d p :=
  Below.trod laid_out (by kernel_rfl) (of_decide_eq_true (by kernel_rfl)) h hb hlt
/-- A step, read. -/
theorem open_op {held : Bool} {fuel : Nat} {cs : List Value} {x : DataW H × List MemPlace} (h : DataW.trod enc Tryd.prog W 0 (fun _ => true) held fuel 45 cs = some x) (hw : reached (x.1.weights Tryd.prog 45)) : ∃ o : OpU, cs = o.cells ∧ o.In W := by
  obtain ⟨xs, n, rfl, rfl, hlen, hxl, hf⟩ := DataW.trod_struct Tryd.underlying45 h
  rw [cells_op] at hlen
  match cs, hlen with
  | [c0, c1, c2, c3, c4, c5, c6, c7, c8], _ =>
  match xs, hxl with
  | [y0, y1, y2, y3, y4, y5], _ =>
  have h0 : DataW.trod enc Tryd.prog W 0 (fun _ => true) held n 3 (([c0, c1, c2, c3, c4, c5, c6, c7, c8].drop 0).take (Tryd.prog.cellsOf 3)) = some y0 := hf 0 _ rfl
  have h1 : DataW.trod enc Tryd.prog W 0 (fun _ => true) held n 3 (([c0, c1, c2, c3, c4, c5, c6, c7, c8].drop 1).take (Tryd.prog.cellsOf 3)) = some y1 := hf 1 _ rfl
  have h2 : DataW.trod enc Tryd.prog W 0 (fun _ => true) held n 23 (([c0, c1, c2, c3, c4, c5, c6, c7, c8].drop 2).take (Tryd.prog.cellsOf 23)) = some y2 := hf 2 _ rfl
  have h3 : DataW.trod enc Tryd.prog W 0 (fun _ => true) held n 24 (([c0, c1, c2, c3, c4, c5, c6, c7, c8].drop 6).take (Tryd.prog.cellsOf 24)) = some y3 := hf 3 _ rfl
  have h4 : DataW.trod enc Tryd.prog W 0 (fun _ => true) held n 4 (([c0, c1, c2, c3, c4, c5, c6, c7, c8].drop 7).take (Tryd.prog.cellsOf 4)) = some y4 := hf 4 _ rfl
  have h5 : DataW.trod enc Tryd.prog W 0 (fun _ => true) held n 43 (([c0, c1, c2, c3, c4, c5, c6, c7, c8].drop 8).take (Tryd.prog.cellsOf 43)) = some y5 := hf 5 _ rfl
  rw [cells_int] at h0 h1
  rw [cells_sup] at h2
  rw [cells_bytes] at h3
  rw [cells_bool] at h4
  rw [cells_bools] at h5
  obtain ⟨m0, e0, -, w0⟩ := DataW.trod_int Tryd.underlying3 h0
  obtain ⟨m1, e1, -, w1⟩ := DataW.trod_int Tryd.underlying3 h1
  obtain ⟨s, e2, w2⟩ := open_supL h2
  obtain ⟨m4, e4, -⟩ := DataW.trod_bool Tryd.underlying4 h4
  simp only [DataW.weights, Tryd.underlying45, List.map_cons, List.map_nil, DataW.weightsEach, reached_append] at hw
  obtain ⟨-, -, -, r3, -, r5, -⟩ := hw
  obtain ⟨la, lc, l, e3, i3, b3, k3, z3⟩ := open_bytesL n h3 r3
  obtain ⟨ka, kc, kl, e5, i5, k5, z5⟩ := open_boolsL n h5 r5
  simp at e0 e1 e2 e3 e4 e5
  obtain ⟨f0, f1, f2, f3⟩ := e2
  subst e0 e1 f0 f1 f2 f3 e3 e4 e5
  exact ⟨⟨m0, m1, s, la, lc, l, m4, ka, kc, kl⟩, rfl, wf_okInt w0, wf_okInt w1, w2, i3, b3, k3, z3, i5, k5⟩
theorem in_ops {a : Addr} {n : Nat} {Q : OpU → Prop} (h : ∀ i, i < n → ∃ o : OpU, (∀ j, j < 9 → W.cell? ((a.add (i * 9)).add j) = o.cells[j]?) ∧ Q o) : ∃ l : List OpU, l.length = n ∧ InOU W (some a) l ∧ ∀ o ∈ l, Q o := by
  obtain ⟨l, hl, hq⟩ := pick h
  refine ⟨l, hl, fun i x hx => ?_, fun x hx => ?_⟩
  · have h0 : a.spot = none := by
      obtain ⟨x0, hx0⟩ : ∃ x0, l[0]? = some x0 := ⟨_, List.getElem?_eq_getElem (by have := lt_of_get hx; omega)⟩
      have h1 := (hq 0 x0 hx0).1 0 (by omega)
      exact spot_none (a := a) (by simpa [OpU.cells, Addr.add] using h1)
    obtain ⟨b, o, s⟩ := a
    simp only at h0
    subst h0
    refine ⟨b, o, rfl, fun j c hj => ?_⟩
    have hj9 : j < 9 := by have := lt_of_get hj; simpa [OpU.cells] using this
    have h2 := (hq i x hx).1 j hj9
    rw [add_plain (show (⟨b, o, none⟩ : Addr).spot = none from rfl), add_plain (show (⟨b, o + i * 9, none⟩ : Addr).spot = none from rfl), hj] at h2
    exact h2
  · obtain ⟨i, hi⟩ := List.getElem?_of_mem hx
    exact (hq i x hi).2
theorem open_ops {r : Reach} {base : Nat} {v : Value} {d : DataW H} {p : List MemPlace} (hv : Value.okWide Tryd.prog W r base 37 v) (h : DataW.Trod enc Tryd.prog W 0 (fun _ => true) true 37 v d p) (hw : reached (d.weights Tryd.prog 37)) :
    ∃ la lc l, v = .slice la (l : List OpU).length lc ∧ InOU W la l ∧ (∀ o ∈ l, o.In W) ∧ l.length ≤ Rows.uptoBulk d := by
  obtain ⟨fuel, hf⟩ := h
  obtain ⟨a, n, c, rfl⟩ := okWide_slice Tryd.underlying37 hv
  rcases DataW.trod_slice Tryd.underlying37 hf with ⟨hc, hd⟩ | ⟨a, len, cap, elems, rest, n2, rfl, hc, hx, -, hl, -, hel, hi, hsp, -⟩
  · exact ⟨none, 0, [], by simpa [Value.cells] using hc, fun i x hx => by simp at hx, by simp, Nat.zero_le _⟩
  · have e3 := congrArg Prod.fst (Option.some.inj (Eq.symm (show some (_ : DataW H × List MemPlace) = some (d, p) from (congrArg some hx.symm))))
    simp only at e3
    rw [e3] at hw
    simp only [DataW.weights, Tryd.underlying37, reached_cons, reached_append] at hw
    obtain ⟨wc, we, -⟩ := hw
    obtain ⟨l, hll, hin, hall⟩ := in_ops (W := W) (a := a) (n := len) (Q := fun o => o.In W) (fun i hil => by
      have e := hi i hil
      have hg : elems[i]? = some (elems[i]'(by omega)) := List.getElem?_eq_getElem (by omega)
      rw [hg, Option.bind_eq_some_iff] at e
      obtain ⟨cs', hcs, ht⟩ := e
      rw [cells_op] at hcs
      obtain ⟨_, hcl, hat⟩ := World.cells?_some hcs
      obtain ⟨o, rfl, hok⟩ := open_op ht (reached_each we _ (List.mem_map.2 ⟨elems[i]'(by omega), List.getElem_mem _, rfl⟩))
      exact ⟨o, hat, hok⟩)
    refine ⟨some a, cap, l, ?_, hin, hall, ?_⟩
    · simp [Value.cells] at hc
      rw [hll]
      simpa using hc
    · rw [hll, ← hel, e3]
      have := bulk_len (elems.map (·.1))
      simp only [Rows.uptoBulk]
      simp at this
      omega
theorem back_ops {W' : World} {v : Value} {d : DataW H} {p : List MemPlace} (h : DataW.Trod enc Tryd.prog W 0 (fun _ => true) true 37 v d p) (hb : Below W.heap.size W W') (hlt : ∀ x ∈ p, x.block < W.heap.size) :
    DataW.Trod enc Tryd.prog W' 0 (fun b => decide (b < W.heap.size)) true 37 v d p :=
  Below.trod laid_out (by kernel_rfl) (of_decide_eq_true (by kernel_rfl)) h hb hlt
theorem trodAll_six {P : Program} {w : World} {base : Nat} {spare : Nat → Bool} {held : Bool} {t0 t1 t2 t3 t4 t5 : TypeId} {args : Array Value} {ds : List (DataW H)} {ps : List MemPlace} (h : DataW.TrodAll enc P w base spare held [t0, t1, t2, t3, t4, t5] args.toList ds ps) :
    ∃ v0 v1 v2 v3 v4 v5 d0 d1 d2 d3 d4 d5 p0 p1 p2 p3 p4 p5, args = #[v0, v1, v2, v3, v4, v5] ∧ ds = [d0, d1, d2, d3, d4, d5] ∧ ps = p0 ++ (p1 ++ (p2 ++ p3 ++ p4 ++ p5)) ∧ DataW.Trod enc P w base spare held t0 v0 d0 p0 ∧ DataW.Trod enc P w base spare held t1 v1 d1 p1 ∧ DataW.Trod enc P w base spare held t2 v2 d2 p2 ∧ DataW.Trod enc P w base spare held t3 v3 d3 p3 ∧ DataW.Trod enc P w base spare held t4 v4 d4 p4 ∧ DataW.Trod enc P w base spare held t5 v5 d5 p5 := by
  obtain ⟨v0, vs, d0, ds', p0, q, hargs, rfl, rfl, hd, hrest⟩ := trodAll_cons h
  obtain ⟨v1, us, d1, ds2, p1, q2, hargs2, rfl, rfl, hd1, hrest2⟩ := trodAll_cons hrest
  obtain ⟨v2, v3, v4, v5, d2, d3, d4, d5, p2, p3, p4, p5, e1, rfl, rfl, h2, h3, h4, h5⟩ := trodAll_four (args := us.toArray) hrest2
  have e2 : us = [v2, v3, v4, v5] := by have := congrArg Array.toList e1; simpa using this
  have e3 : vs = v1 :: us := hargs2
  refine ⟨v0, v1, v2, v3, v4, v5, d0, d1, d2, d3, d4, d5, p0, p1, p2, p3, p4, p5, ?_, rfl, rfl, hd, hd1, h2, h3, h4, h5⟩
  rw [e3, e2] at hargs
  cases args
  simp_all
theorem trodAll_mk6 {P : Program} {w : World} {base : Nat} {spare : Nat → Bool} {held : Bool} {t0 t1 t2 t3 t4 t5 : TypeId} {v0 v1 v2 v3 v4 v5 : Value} {d0 d1 d2 d3 d4 d5 : DataW H} {p0 p1 p2 p3 p4 p5 : List MemPlace} (h0 : DataW.Trod enc P w base spare held t0 v0 d0 p0) (h1 : DataW.Trod enc P w base spare held t1 v1 d1 p1)
    (h2 : DataW.Trod enc P w base spare held t2 v2 d2 p2) (h3 : DataW.Trod enc P w base spare held t3 v3 d3 p3) (h4 : DataW.Trod enc P w base spare held t4 v4 d4 p4) (h5 : DataW.Trod enc P w base spare held t5 v5 d5 p5) : DataW.TrodAll enc P w base spare held [t0, t1, t2, t3, t4, t5] [v0, v1, v2, v3, v4, v5] [d0, d1, d2, d3, d4, d5] (p0 ++ (p1 ++ (p2 ++ (p3 ++ (p4 ++ p5))))) := ⟨p0, _, h0, ⟨p1, _, h1, trodAll_mk4 h2 h3 h4 h5, rfl⟩, rfl⟩
end
end Go.Proofs.YtonjapphhbhcpaaDoor
