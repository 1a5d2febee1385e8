/- Reading: a call. Reading: a document that is a call. No statement is proved here. -/
import Derived.Test.YtcpbdmgkeljkgaaGreatDoorERa
import Derived.Test.YtcpbdmgkeljkgaaGreatDoorEOf
import Derived.Test.YtcpbdmgkeljkgaaGreatDoorECa
namespace Go.Proofs.YtcpbdmgkeljkgaaGreatDoor
open Go.RowKit
set_option maxRecDepth 100000

theorem takes_any (least : Int) (more : Bool) (many : Int) (h : (many == least || more && decide (least < many)) = true) (w : World) : Calls Tryz.prog 278 #[.agg #[.int .i64 least, .bool more], .int .i64 many] w fun e w' => e = .returned (.bool true) ∧ Below w.heap.size w w' := by
  by_cases h1 : many = least
  · subst h1
    go_enter Tryz.func278, Tryz.ntmps278
    go_wp2_with fail
    go_ret
    exact ⟨rfl, below1 _ _⟩
  · have h2 : (many == least) = false := by simpa using h1
    rw [h2, Bool.false_or, Bool.and_eq_true, decide_eq_true_eq] at h
    obtain ⟨rfl, h3⟩ := h
    go_enter Tryz.func278, Tryz.ntmps278
    go_wp2_with fail
    go_ret
    exact ⟨by simp, below1 _ _⟩
/-- The operator takes so many. -/
def TakesOk (u : TypeId) (x : Value) (n : Int) : Prop :=
  ∃ gF rcv, (∀ w : World, (method mD u x "coffret/expr.takes").run Tryz.prog w = .ok (gF, rcv) w) ∧ (∀ (args : Array Value) (w : World), (callFunc gF args).run Tryz.prog w = .ok (.enter gF args) w) ∧ ∀ w : World, Calls Tryz.prog gF #[rcv, .int .i64 n] w fun e w' => e = .returned (.bool true) ∧ Below w.heap.size w w'
def argc : OpX → Nat
  | .max => 3
  | .cond => 3
  | _ => 2
theorem OpAt.takes {B : Nat} {W : World} {o : OpX} {u : TypeId} {x : Value} (h : OpAt B W o (.iface u x)) : TakesOk u x (argc o) := by
  cases o
  case add | mul =>
    obtain ⟨g, -, h1, -⟩ := h
    injection h1 with e1 e2
    subst e1 e2
    exact ⟨278, .agg #[.int .i64 1, .bool true], fun w => by kernel_rfl, fun args w => by kernel_rfl, fun w => takes_any 1 true 2 (by decide) w⟩
  case sub | div | mod =>
    obtain ⟨g, -, h1, -⟩ := h
    injection h1 with e1 e2
    subst e1 e2
    exact ⟨278, .agg #[.int .i64 2, .bool false], fun w => by kernel_rfl, fun args w => by kernel_rfl, fun w => takes_any 2 false 2 (by decide) w⟩
  case gt =>
    obtain ⟨g, -, h1, -⟩ := h
    injection h1 with e1 e2
    subst e1 e2
    exact ⟨278, .agg #[.int .i64 2, .bool false], fun w => by kernel_rfl, fun args w => by kernel_rfl, fun w => takes_any 2 false 2 (by decide) w⟩
  case max =>
    have h1 : Value.iface u x = eOp 1 true (fOf 97) := h
    injection h1 with e1 e2
    subst e1 e2
    exact ⟨278, .agg #[.int .i64 1, .bool true], fun w => by kernel_rfl, fun args w => by kernel_rfl, fun w => takes_any 1 true 3 (by decide) w⟩
  case cond =>
    have h1 : Value.iface u x = .iface 142 (.agg #[.int .i64 3, .bool false]) := h
    injection h1 with e1 e2
    subst e1 e2
    exact ⟨278, .agg #[.int .i64 3, .bool false], fun w => by kernel_rfl, fun args w => by kernel_rfl, fun w => takes_any 3 false 3 (by decide) w⟩
theorem arguments_any (la : Option Addr) (n c : Nat) (w : World) : Calls Tryz.prog 49 #[.agg #[.int .i64 6, .int .i64 0, .string ⟨#[]⟩, .slice la n c, .slice none 0 0]] w fun e w' => e = .returned (.slice la n c) ∧ Below w.heap.size w w' := by
  go_enter Tryz.func49, Tryz.ntmps49
  go_wp2_with fail
  go_ret
  exact ⟨rfl, below1 _ _⟩
/-- Which operator stands at a name, and that it is none of the four that are read otherwise. -/
structure OpName (o : OpX) (name : ByteArray) : Prop where
  op : ∀ w : World, Calls Tryz.prog 48 #[.string name] w fun e w' => Below w.heap.size w w' ∧ ∃ t x, e = .returned (.iface t x) ∧ OpAt w.heap.size w' o (.iface t x)
  n1 : (name.toList == [36, 108, 105, 116, 101, 114, 97, 108]) = false
  n2 : (name.toList == [36, 109, 97, 112]) = false
  n3 : (name.toList == [36, 102, 105, 108, 116, 101, 114]) = false
  n4 : (name.toList == [36, 114, 101, 100, 117, 99, 101]) = false
  pre : Lib.hasPrefix name.data.toList [36] = true
theorem NodeOk.base {d : T} {wr : World} {G n0 n1 : Nat} {r : Rd} {u : TypeId} {x : Value} (h : NodeOk d wr G n0 r u x) (hn : n1 ≤ n0) : NodeOk d wr G n1 r u x := fun S W' hS hO =>
  h S W' (fun b hb => (hS b hb).imp id (fun h => ⟨by omega, h.2⟩)) hO
/-- A call that was read: its operator, its nodes. -/
def CallTo (d : T) (o : OpX) (rds : List Rd) (w : World) (e : Ending) (w' : World) : Prop :=
  Below w.heap.size w w' ∧ ∃ (u : TypeId) (x : Value) (ga c : Nat) (ns : List (TypeId × Value)), e = .returned (.iface 98 (.agg #[.iface u x, .slice (some ⟨ga, 0, none⟩) rds.length c])) ∧ OpAt w.heap.size w' o (.iface u x) ∧ ns.length = rds.length ∧ w.heap.size ≤ ga ∧
    (∀ (i : Nat) (a : TypeId × Value) (r : Rd), ns[i]? = some a → rds[i]? = some r → NodeOk d w' ga w.heap.size r a.1 a.2) ∧ ∃ cur : Array Value, w'.heap[ga]? = some (.cells cur 47 (0, 0)) ∧ ∀ (i : Nat) (a : TypeId × Value), ns[i]? = some a → cur[i]? = some (.iface a.1 a.2)
set_option maxHeartbeats 4000000 in
theorem readCall_any (d : T) {o : OpX} {name : ByteArray} (hop : OpName o name) (rds : List Rd) (hl : rds.length = argc o) (H : ∀ r ∈ rds, Reads d r.t r.k r.R r.err) (la : Option Addr) (lc : Nat) (w : World) (gs : Nat) (henv : EnvR w) (hsc : ScopeAt w gs) (hin : InL w la (rds.map Rd.t)) :
    Calls Tryz.prog 36 #[.string name, .agg #[.int .i64 6, .int .i64 0, .string ⟨#[]⟩, .slice la rds.length lc, .slice none 0 0], .slice (some ⟨gs, 0, none⟩) 1 1] w (CallTo d o rds w) := by
  have hl50 : rds.length ≤ 50 := by rw [hl]; cases o <;> decide
  have HOP := Lib.hid hop
  have n1 := hop.n1
  have n2 := hop.n2
  have n3 := hop.n3
  have n4 := hop.n4
  have HE := Lib.hid (And.intro henv (And.intro hsc (And.intro hin (And.intro H hl50))))
  have HL := Lib.hid hl
  have x0 := heap_alloc_new w (.cells #[.int .i64 6, .int .i64 0, .string ⟨#[]⟩, .slice la rds.length lc, .slice none 0 0] 28 (0, 0))
  have x1 := below1 w (.cells #[.int .i64 6, .int .i64 0, .string ⟨#[]⟩, .slice la rds.length lc, .slice none 0 0] 28 (0, 0))
  obtain ⟨U, hU⟩ : ∃ U, w.alloc (.cells #[.int .i64 6, .int .i64 0, .string ⟨#[]⟩, .slice la rds.length lc, .slice none 0 0] 28 (0, 0)) = U := ⟨_, rfl⟩
  rw [hU] at x0 x1
  have HU := Lib.hid (And.intro hU (And.intro x0 x1))
  have HCV : Hid (∀ W, Below U.heap.size U W → ∀ o : Nat, W.cell? ⟨w.heap.size, o, none⟩ = (#[.int .i64 6, .int .i64 0, .string ⟨#[]⟩, .slice la rds.length lc, .slice none 0 0] : Array Value)[o]?) := Lib.hid (fun W hb => row_cells (row_then x0 hb))
  have cU := HCV.out U (Below.refl _ _)
  clear henv hsc hin H hop hl hl50 hU x0 x1
  go_enter Tryz.func36, Tryz.ntmps36
  go_wp2_with fail
  rw [HU.out.1]
  go_region_with (first
    | (go_at_call 48; refine (HOP.out.op _).mono ?_; rintro e w1 ⟨b1, u, x, rfl, hop⟩; have hA : Below U.heap.size U w1 := (by first | exact b1 | exact below_then (Below.refl _ U).drew b1); have cW := HCV.out w1 hA; have HA := Lib.hid (And.intro hA (hop.base (B' := U.heap.size) (by first | exact Nat.le_refl _ | simp [World.drew]))); clear b1 hA hop)
    | (go_at_call 49; refine (arguments_any la rds.length lc _).mono ?_; rintro e w2 ⟨rfl, b2⟩; have HA2 := Lib.hid (And.intro (below_then HA.out.1 b2) (HA.out.2.then_ b2)); clear b2))
  all_goals simp only [List.getElem_toArray, List.getElem_cons_succ, List.getElem_cons_zero, Act.put, List.setIfInBounds_toArray, List.set_cons_succ, List.set_cons_zero]
  all_goals (obtain ⟨gF, rcv, hm, hc, hT⟩ := HA2.out.2.takes)
  all_goals rw [← HL.out] at hT
  all_goals unfold mD at hm
  all_goals have HT := Lib.hid hT
  all_goals clear hT cW
  all_goals go_wp2_with fail
  all_goals refine (HT.out _).mono ?_
  all_goals rintro e w3 ⟨rfl, b3⟩
  all_goals have HB := Lib.hid (And.intro (below_then HA2.out.1 b3) (HA2.out.2.then_ b3))
  all_goals have bW := Lib.hid (below_then HU.out.2.2 HB.out.1)
  all_goals have HRA := Lib.hid (readAll_any d rds HE.out.2.2.2.2 HE.out.2.2.2.1 la lc w3 gs (HE.out.1.then_ bW.out) (HE.out.2.1.then_ bW.out) (HE.out.2.2.1.then_ bW.out))
  all_goals clear b3 hm hc
  all_goals go_wp2_with fail
  all_goals refine HRA.out.mono ?_
  all_goals rintro e w4 ⟨ns, rfl, hN⟩
  all_goals have HN := Lib.hid hN
  all_goals clear hN
  all_goals go_wp2_with fail
  all_goals go_ret
  all_goals exact ⟨below_then bW.out HN.out.bel, u, x, w3.heap.size, rds.length, ns, rfl, (HB.out.2.base (by have := HU.out.2.2.size; omega)).then_ HN.out.bel, HN.out.len, bW.out.size, fun i a r ha hr => (HN.out.ok i a r ha hr).base bW.out.size, by
    obtain ⟨cur, h1, -, h2⟩ := HN.out.row
    exact ⟨cur, h1, h2⟩⟩
end Go.Proofs.YtcpbdmgkeljkgaaGreatDoor
namespace Go.Proofs.YtcpbdmgkeljkgaaGreatDoor
open Go.RowKit
set_option maxRecDepth 100000

theorem callTo_keep {d : T} {o : OpX} {rds : List Rd} {w w1 : World} (hb : Below w.heap.size w w1) {e : Ending} {w' : World} (h : CallTo d o rds w1 e w') : CallTo d o rds w e w' := by
  obtain ⟨b, u, x, ga, c, ns, he, ho, hl, hg, hn, hr⟩ := h
  exact ⟨below_then hb b, u, x, ga, c, ns, he, ho.base hb.size, hl, Nat.le_trans hb.size hg, fun i a r ha hr => (hn i a r ha hr).base hb.size, hr⟩
/-- A document of one field: a call with a list of arguments. -/
def callT (name : ByteArray) (da : Option Addr) (dc : Nat) (la : Option Addr) (lc : Nat) (l : List T) : T := .mk 5 0 ⟨#[]⟩ none 0 [] da dc [(name, .mk 6 0 ⟨#[]⟩ la lc l none 0 [])]
set_option maxHeartbeats 4000000 in
theorem readDoc_any (d : T) {o : OpX} {name : ByteArray} (hop : OpName o name) (rds : List Rd) (hl : rds.length = argc o) (H : ∀ r ∈ rds, Reads d r.t r.k r.R r.err) (da : Option Addr) (dc : Nat) (la : Option Addr) (lc : Nat) (w : World) (gs : Nat) (henv : EnvR w) (hsc : ScopeAt w gs) (hin : (callT name da dc la lc (rds.map Rd.t)).In w) :
    Calls Tryz.prog 23 #[(callT name da dc la lc (rds.map Rd.t)).arg, .slice (some ⟨gs, 0, none⟩) 1 1] w (CallTo d o rds w) := by
  obtain ⟨b, p, f, k, n, s, la', lc', l', da', dc', d', rfl, hx, hix, x0, x1, x2, x3, x4, x5⟩ := hin.parts.2.six (i := 0) (by simp)
  simp only [List.getElem?_cons_zero, Option.some.injEq, Prod.mk.injEq, T.mk.injEq] at hx
  obtain ⟨rfl, rfl, rfl, rfl, rfl, rfl, rfl, rfl, rfl, rfl⟩ := hx
  have hpre := hop.pre
  have HC := Lib.hid (fun (W : World) (hb : Below w.heap.size w W) => (readCall_any d hop rds hl H la lc W gs (henv.then_ hb) (hsc.then_ hb) (hix.parts.1.then_ hb)).mono fun e w' h => callTo_keep hb h)
  simp only [List.length_map, List.length_nil, Nat.zero_mul, Nat.add_zero] at x0 x1 x2 x3 x4 x5
  have hlt := World.block_lt_of_cell? w _ x0
  simp only at hlt
  have HP := Lib.hid (fun w => prefix_any name ⟨#[36]⟩ w)
  rw [show Lib.hasPrefix name.data.toList (ByteArray.mk #[36]).data.toList = true from hpre] at HP
  rw [show (callT name (some ⟨b, p, none⟩) dc la lc (rds.map Rd.t)).arg = .agg #[.int .i64 5, .int .i64 0, .string ⟨#[]⟩, .slice none 0 0, .slice (some ⟨b, p, none⟩) 1 dc] from rfl]
  clear henv hsc hin hix H hop hl hpre
  go_enter Tryz.func23, Tryz.ntmps23
  go_wp2_with fail
  refine (HP.out _).mono ?_
  rintro e w1 ⟨rfl, rfl⟩
  go_wp2_with fail
  go_region_with (go_at_call 36; refine (HC.out _ (below1 _ _).drew).mono ?_; rintro e w2 ⟨b2, u, x, ga, c, ns, rfl, hrest⟩; have HB := Lib.hid (And.intro b2 hrest); clear b2 hrest)
  all_goals simp only [List.getElem_toArray, List.getElem_cons_succ, List.getElem_cons_zero, Act.put, List.setIfInBounds_toArray, List.set_cons_succ, List.set_cons_zero]
  all_goals go_wp2_with fail
  all_goals go_ret
  all_goals exact ⟨HB.out.1, u, x, ga, c, ns, rfl, HB.out.2⟩
set_option maxHeartbeats 4000000 in
theorem read_call (d : T) {o : OpX} {name : ByteArray} (hop : OpName o name) (rds : List Rd) (hl : rds.length = argc o) (H : ∀ r ∈ rds, Reads d r.t r.k r.R r.err) (da : Option Addr) (dc : Nat) (la : Option Addr) (lc : Nat) (w : World) (gs : Nat) (henv : EnvR w) (hsc : ScopeAt w gs) (hin : (callT name da dc la lc (rds.map Rd.t)).In w) :
    Calls Tryz.prog 16 #[(callT name da dc la lc (rds.map Rd.t)).arg, .slice (some ⟨gs, 0, none⟩) 1 1] w (CallTo d o rds w) := by
  have HC := Lib.hid (fun (W : World) (hb : Below w.heap.size w W) => (readDoc_any d hop rds hl H da dc la lc W gs (henv.then_ hb) (hsc.then_ hb) (hin.then_ hb)).mono fun e w' h => callTo_keep hb h)
  have e1 : (callT name da dc la lc (rds.map Rd.t)).arg = .agg #[.int .i64 5, .int .i64 0, .string ⟨#[]⟩, .slice none 0 0, .slice da 1 dc] := rfl
  rw [e1] at HC ⊢
  clear henv hsc hin H hop hl e1
  go_enter Tryz.func16, Tryz.ntmps16
  go_wp2_with fail
  refine (HC.out _ (below1 _ _)).mono ?_
  rintro e w2 ⟨b2, u, x, ga, c, ns, rfl, hrest⟩
  have HB := Lib.hid (And.intro b2 hrest)
  clear b2 hrest
  go_wp2_with fail
  go_ret
  exact ⟨HB.out.1, u, x, ga, c, ns, rfl, HB.out.2⟩
/-- A call reads as a node, if its operator makes something of the nodes of its arguments. -/
theorem reads_call (d : T) {o : OpX} {name : ByteArray} (hop : OpName o name) (rds : List Rd) (hl : rds.length = argc o) (H : ∀ r ∈ rds, Reads d r.t r.k r.R r.err) {k : Nat} {R : T → Prop} {err : Int} (hs : err = 0 → ∀ r, R r → sizeV r.val ≤ 65536) (hz : err ≠ 0 → R voidT)
    (HOp : ∀ (B : Nat) (W : World) (u : TypeId) (x : Value) (ga c : Nat) (ns : List (TypeId × Value)), OpAt B W o (.iface u x) → ns.length = rds.length → (∀ (i : Nat) (a : TypeId × Value) (r : Rd), ns[i]? = some a → rds[i]? = some r → Ev W d a.1 a.2 r.k r.R r.err ∧ W.cell? ⟨ga, i, none⟩ = some (.iface a.1 a.2)) → OpTo W d u x ga rds.length c k R err)
    (da : Option Addr) (dc : Nat) (la : Option Addr) (lc : Nat) : Reads d (callT name da dc la lc (rds.map Rd.t)) k R err := by
  intro w gs henv hsc hin
  refine (read_call d hop rds hl H da dc la lc w gs henv hsc hin).mono ?_
  rintro e w' ⟨b, u, x, ga, c, ns, rfl, ho, hln, hga, hok, cur, hrow, hcur⟩
  refine ⟨_, _, rfl, b, fun S W' hS hO => ?_⟩
  have hpl : ∀ r ∈ rds, ∀ p ∈ r.t.places, p ∈ (callT name da dc la lc (rds.map Rd.t)).places := by
    intro r hr p hp
    simp only [callT, T.places, T.placesL, T.placesD, List.nil_append, List.append_nil, List.mem_append]
    obtain ⟨i, hi, rfl⟩ := List.mem_iff_getElem.1 hr
    exact .inr ((T.mem_placesL _ _ _ _).2 ⟨i, rds[i].t, by rw [List.getElem?_map, List.getElem?_eq_getElem hi]; rfl, .inr hp⟩)
  refine call_ev (HOp w.heap.size W' u x ga c ns (ho.onlyS hO (fun b hb => (hS b hb).1)) hln (fun i a r ha hr => ⟨?_, ?_⟩)) hs hz
  · exact hok i a r ha hr S W' (fun b hb => .inr ⟨(hS b hb).1, fun p hp => (hS b hb).2 p (hpl r (List.mem_of_getElem? hr) p hp)⟩) hO
  · have h1 := cell_of_row w' ga i _ _ _ hrow
    rw [hcur i a ha] at h1
    exact cell_onlyS h1 hO (fun hc => by have := (hS ga hc).1; omega)
end Go.Proofs.YtcpbdmgkeljkgaaGreatDoor
