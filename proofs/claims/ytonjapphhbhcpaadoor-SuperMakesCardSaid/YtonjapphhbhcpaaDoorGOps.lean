/- A disk's steps as the statements have them: rows of them as they lie. No statement is proved here. -/
import Derived.Test.YtonjapphhbhcpaaDoorJ8
import Derived.Test.YtonjapphhbhcpaaDoorJ10
namespace Go.Proofs.YtonjapphhbhcpaaDoor
open Go.RowKit
set_option maxRecDepth 100000

/-- A step, with where its rows lie. -/
structure OpD where
  act : Int
  n : Int
  kind : Int
  ba : Option Addr
  bc : Nat
  bl : List Int
  more : Bool
  ka : Option Addr
  kc : Nat
  kl : List Bool
def OpD.cells (o : OpD) : List Value := [.int .i64 o.act, .int .i64 o.n, .int .i64 o.kind, .slice o.ba o.bl.length o.bc, .bool o.more, .slice o.ka o.kl.length o.kc]
structure OpD.In (W : World) (o : OpD) : Prop where
  act : okInt o.act
  n : okInt o.n
  kind : okInt o.kind
  inB : InB W o.ba o.bl
  byte : isB o.bl
  bLen : o.bl.length ≤ o.bc ∧ o.bc ≤ 140737488351232
  bNil : o.ba = none → o.bc = 0
  inK : InK W W.heap.size o.ka o.kl
  kLen : o.kl.length ≤ o.kc ∧ o.kc ≤ 140737488351232
/-- A row of them. -/
def InO (w : World) (a : Option Addr) (l : List OpD) : Prop := ∀ i x, l[i]? = some x → ∃ b o, a = some ⟨b, o, none⟩ ∧ ∀ j c, x.cells[j]? = some c → w.cell? ⟨b, o + i * 6 + j, none⟩ = some c
theorem InO.then_ {w w' : World} {a : Option Addr} {l : List OpD} (h : InO w a l) (hb : Below w.heap.size w w') : InO w' a l := fun i x hx => by
  obtain ⟨b, o, e, hc⟩ := h i x hx
  exact ⟨b, o, e, fun j c hj => (hb.cell (p := ⟨b, o + i * 6 + j, none⟩) (cell_lt (hc j c hj))).trans (hc j c hj)⟩
theorem OpD.In.nil' {W : World} {o : OpD} (h : o.In W) : o.ba = none → o.bc = 0 ∧ o.bl = [] := fun e => ⟨h.bNil e, List.eq_nil_of_length_eq_zero (by have := h.bLen.1; have := h.bNil e; omega)⟩
/-- Five cells. -/
def cells5 (f : Nat → Value) : Array Value := #[f 0, f 1, f 2, f 3, f 4]
theorem cells5_get (f : Nat → Value) {k : Nat} (h : k < 5) : (cells5 f)[k]? = some (f k) := by
  match k, h with
  | 0, _ => rfl
  | 1, _ => rfl
  | 2, _ => rfl
  | 3, _ => rfl
  | 4, _ => rfl
  | k + 5, h => omega
theorem cells5_at {w : World} {g : Nat} {t : TypeId} {f : Nat → Value} (h : w.heap[g]? = some (.cells (cells5 f) t)) {k : Nat} (hk : k < 5) : w.cell? ⟨g, k, none⟩ = some (f k) ∧ w.frozen? ⟨g, k, none⟩ = false := by
  refine ⟨(row_cells h k).trans (cells5_get f hk), ?_⟩
  simp [World.frozen?, h]
theorem cells5_set {w : World} {g : Nat} {t : TypeId} {f : Nat → Value} (h : w.heap[g]? = some (.cells (cells5 f) t)) {k : Nat} (hk : k < 5) (v : Value) : (w.setCell ⟨g, k, none⟩ v).heap[g]? = some (.cells (cells5 fun i => if i = k then v else f i) t) := by
  have e : (w.setCell ⟨g, k, none⟩ v).heap[g]? = some (.cells ((cells5 f).setIfInBounds k v) t) := by
    simp [World.setCell, Array.getElem?_modify, h]
  rw [e]
  match k, hk with
  | 0, _ => rfl
  | 1, _ => rfl
  | 2, _ => rfl
  | 3, _ => rfl
  | 4, _ => rfl
  | k + 5, h => omega
/-- A disk stays where blocks of other makes turn. -/
theorem BoxAt.turnsG {w w' : World} {B B' g N : Nat} {d : Dk} {T : Obj → Prop} (h : BoxAt w B g d N) (ht : Turns T B' w w') (n1 : ∀ cur, ¬ T (.cells cur 78)) (n2 : ∀ cur, ¬ T (.cells cur 95)) (n3 : ∀ cur, ¬ T (.cells cur 5)) (n4 : ∀ es c, ¬ T (.map es c)) : BoxAt w' B g d N := by
  obtain ⟨k, s, h⟩ := h
  refine ⟨k, s, { h with
    box := ht.block _ _ h.box (n1 _)
    mapS := ?_
    mapN := ?_
    isS := h.isS.keep fun v r hr => hr.turns ht n3
    isN := h.isN.keep fun v r hr => hr.turns ht n3
    wait := row_keepW h.wait fun b hb => by
      obtain ⟨cur, h1, -, -⟩ := h.wvObj b hb
      exact (ht.block b _ h1 (n2 cur)).trans h1.symm
    rows := fun i p v a b => (h.rows i p v a b).turns ht n3 }⟩
  · obtain ⟨es, c, e⟩ := h.sbObj
    exact owns_keep h.mapS ((ht.block _ _ e (n4 _ _)).trans e.symm)
  · obtain ⟨es, c, e⟩ := h.nbObj
    exact owns_keep h.mapN ((ht.block _ _ e (n4 _ _)).trans e.symm)
theorem and7 (n : Int) : bits .and .i64 n 7 = n % 8 := by
  have key : (BitVec.ofInt 64 n &&& BitVec.ofInt 64 7).toNat = (n % 8).toNat := by
    rw [BitVec.toNat_and, show (BitVec.ofInt 64 7).toNat = 2 ^ 3 - 1 by decide, Nat.and_two_pow_sub_one_eq_mod, BitVec.toNat_ofInt]
    omega
  show IntKind.i64.wrap ((BitVec.ofInt 64 n &&& BitVec.ofInt 64 7).toNat : Nat) = _
  rw [key, IntKind.wrap_i64]
  omega
end Go.Proofs.YtonjapphhbhcpaaDoor
