/- A journal as plain words, and what layer 15's statements need of the program's: its calls' contracts. A region within a round, walked as if it were none; loads taken first. The program's journal as it lies, and what is told of what the disk answered. No statement is proved here. -/
import Derived.Test.YtophhnolnlbecaaDoorQ23
import Derived.Test.YtophhnolnlbecaaDoorQ24
import Derived.Test.YtophhnolnlbecaaDoorQ25
import Derived.Test.YtophhnolnlbecaaDoorQ18
import Derived.RangeFuncCalls
import Derived.WalkKit
import Derived.OrdersHeld
import Derived.OrdersIn
import Derived.OwnWalkIn
import Derived.Deep.RegionHeld
import Derived.Test.YtophhnolnlbecaaDoorQ21
namespace Go.Proofs.YtophhnolnlbecaaDoor
open Go.RowKit
set_option maxRecDepth 100000

/-- A journal: its disk, area, epoch; what was appended; is it dead? -/
structure JS where
  g : Nat
  fr : Nat
  many : Nat
  e : Int
  rs : List (List Int)
  dead : Bool
def JS.len (J : JS) : Nat := (strmK J.e J.rs J.rs.length).length
def JS.room (J : JS) : Int := 4032 * (J.many : Int) - (begins J.len : Int) - 20
def JS.app (J : JS) (l : List Int) (d : Dk) : Int × Dk := jApp (8 * J.fr) J.e J.rs l d
def JS.more (J : JS) (l : List Int) (er : Int) : JS := if er = 0 then { J with rs := J.rs ++ [l] } else { J with dead := true }
def JS.refE (J : JS) : Int := if J.dead then 151 else 150
structure JS.ok (J : JS) (d : Dk) : Prop where
  ep : jOk J.e
  fits : 8 * J.fr + 8 * J.many ≤ d.many
  small : d.many ≤ 524288
  len : J.len ≤ 4032 * J.many
  rows : ∀ r ∈ J.rs, isB r ∧ r.length ≤ 268435456
theorem JS.strm {J : JS} {d : Dk} {l : List Int} (hl : (l.length : Int) ≤ J.room) : (strmR J.e J.rs l).length ≤ 504 * (8 * J.many) := by
  have h := strmR_len J.e J.rs l
  unfold JS.room JS.len at hl
  omega
theorem JS.ok.short {J : JS} {d : Dk} (h : J.ok d) {l : List Int} (hl : (l.length : Int) ≤ J.room) : l.length ≤ 268435456 := by
  have h1 := h.fits
  have h2 := h.small
  unfold JS.room at hl
  omega
theorem JS.ok.next {J : JS} {d d' : Dk} (h : J.ok d) (hm : d'.many = d.many) {l : List Int} (hB : isB l) (hl : (l.length : Int) ≤ J.room) (er : Int) : (J.more l er).ok d' := by
  unfold JS.more
  split
  · refine ⟨h.ep, by rw [hm]; exact h.fits, by rw [hm]; exact h.small, ?_, fun r hr => ?_⟩
    · have := JS.strm (d := d) hl
      show (strmR J.e J.rs l).length ≤ 4032 * J.many
      omega
    · rcases List.mem_append.1 hr with hr | hr
      · exact h.rows r hr
      · rw [List.mem_singleton.1 hr]
        exact ⟨hB, h.short hl⟩
  · exact ⟨h.ep, by rw [hm]; exact h.fits, by rw [hm]; exact h.small, h.len, h.rows⟩
theorem JS.ok.disk {J : JS} {d d' : Dk} (h : J.ok d) (hm : d'.many = d.many) : J.ok d' := ⟨h.ep, by rw [hm]; exact h.fits, by rw [hm]; exact h.small, h.len, h.rows⟩
theorem JS.ok.few {J : JS} {d : Dk} (h : J.ok d) : 20 * J.rs.length ≤ 4032 * J.many ∧ J.rs.length < 2147483648 := by
  have h1 := strmK_big J.e J.rs J.rs.length
  have h2 := h.len
  have h3 := h.fits
  have h4 := h.small
  unfold JS.len at h2
  omega
/-- Is it an area? -/
def mayJ (d : Dk) (fr many e : Int) : Prop := jOk e ∧ 1 ≤ many ∧ many ≤ (d.many : Int) / 8 ∧ 0 ≤ fr ∧ fr ≤ (d.many : Int) / 8 - many
instance (d : Dk) (fr many e : Int) : Decidable (mayJ d fr many e) := by unfold mayJ jOk; infer_instance
def jArea (d : Dk) (b0 n : Nat) : List Int := catF (fun q => d.look (b0 + q)) 0 n
def jRdE (d : Dk) (fr many e : Int) : Int := if mayJ d fr many e then if d.down then 5 else 0 else 1
def jRdL (d : Dk) (fr many e : Int) : List (List Int) := if jRdE d fr many e = 0 then (scanN (streamN e (8 * many.toNat) (jArea d (8 * fr.toNat) (8 * many.toNat))) e).1 else []
theorem jApp_many (b0 : Nat) (e : Int) (rs : List (List Int)) (l : List Int) (d : Dk) : (jApp b0 e rs l d).2.many = d.many := by
  unfold jApp
  generalize jEnd e rs l - jFst e rs = c
  generalize jFst e rs = q
  induction c generalizing q d with
  | zero => rfl
  | succ c ih =>
    rw [wrX]
    split
    · rw [ih, Dk.write_many]
    · exact Dk.write_many _ _ _
theorem jApp_allB {b0 : Nat} {e : Int} {rs : List (List Int)} {l : List Int} {d : Dk} (h : d.allB) (hr : ∀ r ∈ rs, isB r) (hl : isB l) : (jApp b0 e rs l d).2.allB := by
  have hS : isB (strmR e rs l) := by
    have : ∀ (us : List (List Int)), (∀ r ∈ us, isB r) → ∀ k, isB (strmK e us k) := fun us hus k => by
      induction k with
      | zero => exact isB.nil
      | succ k ih =>
        unfold strmK
        refine ih.append2 ((zB_byte _).append2 (jFrame_byte ?_))
        cases hk : us[k]? with
        | none => exact isB.nil
        | some r => exact hus r (List.mem_of_getElem? hk)
    exact this _ (fun r hr' => by
      rcases List.mem_append.1 hr' with h' | h'
      · exact hr r h'
      · rw [List.mem_singleton.1 h']; exact hl) _
  have hX : ∀ q, isB (secL e (strmR e rs l) q) := fun q => by
    unfold secL
    exact (leB_byte _ _).append2 (((hS.drop _).take' _).append2 (zB_byte _))
  unfold jApp
  generalize jEnd e rs l - jFst e rs = c
  generalize jFst e rs = q
  induction c generalizing q d with
  | zero => exact h
  | succ c ih =>
    rw [wrX]
    split
    · exact ih (h.write _ (hX q)) _
    · exact h.write _ (hX q)
/-- Of what was there only some blocks, and a disk's, have turned. -/
structure JTurns (F : List Nat) (B : Nat) (w w' : World) : Prop where
  below : Below B w w'
  block : ∀ (b : Nat) (o : Obj), w.heap[b]? = some o → ¬ TB o → b ∉ F → w'.heap[b]? = some o
/-- The program's calls answer so, in every world that has grown out of W. -/
structure P15J (W : World) (Jn : World → List Nat → Nat → JS → Prop) : Prop where
  lt : ∀ {w : World} {F : List Nat} {a : Nat} {J : JS}, Jn w F a J → ∀ b ∈ F, W.heap.size ≤ b ∧ b < w.heap.size
  keep : ∀ {w w' : World} {F : List Nat} {a : Nat} {J : JS}, Jn w F a J → (∀ b ∈ F, w'.heap[b]? = w.heap[b]?) → Jn w' F a J
  form : ∀ {w : World} {F : List Nat} {a : Nat} {J : JS}, Jn w F a J → ∀ b ∈ F, ∃ cur t fr, w.heap[b]? = some (.cells cur t fr) ∧ t ≠ 77 ∧ t ≠ 100
  new : ∀ (h g : Nat) (fr many e : Int) (w : World) (B : Base) (N : Nat) (d : Dk), Below W.heap.size W w → W.heap.size ≤ h → w.heap[h]? = some (.cells #[.pointer (some ⟨g, 0, none⟩)] 86) → BoxAt w B g d N → okInt fr → okInt many → okInt e →
    Calls Tryd.prog 19 #[.pointer (some ⟨h, 0, none⟩), .int .i64 fr, .int .i64 many, .int .i64 e] w fun en w' => Below w.heap.size w w' ∧ ((¬ mayJ d fr many e ∧ en = .returned (.tuple #[.pointer none, .int .i64 1])) ∨ (mayJ d fr many e ∧ ∃ F a, en = .returned (.tuple #[.pointer (some ⟨a, 0, none⟩), .int .i64 0]) ∧ Jn w' F a ⟨g, fr.toNat, many.toNat, e, [], false⟩ ∧ ∀ b ∈ F, b = h ∨ w.heap.size ≤ b))
  room : ∀ (F : List Nat) (a : Nat) (J : JS) (w : World) (d : Dk), Below W.heap.size W w → Jn w F a J → J.ok d → Calls Tryd.prog 21 #[.pointer (some ⟨a, 0, none⟩)] w fun en w' => en = .returned (.int .i64 J.room) ∧ Below w.heap.size w w'
  records : ∀ (F : List Nat) (a : Nat) (J : JS) (w : World) (d : Dk), Below W.heap.size W w → Jn w F a J → J.ok d → Calls Tryd.prog 32 #[.pointer (some ⟨a, 0, none⟩)] w fun en w' => en = .returned (.int .i64 (J.rs.length : Int)) ∧ Below w.heap.size w w'
  bytes : ∀ (F : List Nat) (a : Nat) (J : JS) (w : World) (d : Dk), Below W.heap.size W w → Jn w F a J → J.ok d → Calls Tryd.prog 24 #[.pointer (some ⟨a, 0, none⟩)] w fun en w' => en = .returned (.int .i64 (J.len : Int)) ∧ Below w.heap.size w w'
  refuse : ∀ (F : List Nat) (a : Nat) (J : JS) (x : Option Addr) (n c : Nat) (l : List Int) (w : World) (d : Dk), Below W.heap.size W w → Jn w F a J → J.ok d → InB w x l → isB l → l.length = n → n ≤ c → c ≤ maxLen → (x = none → c = 0 ∧ l = []) → J.dead = true ∨ J.room < (n : Int) →
    Calls Tryd.prog 22 #[.pointer (some ⟨a, 0, none⟩), .slice x n c] w fun en w' => en = .returned (errV J.refE) ∧ Below w.heap.size w w'
  append : ∀ (F : List Nat) (a : Nat) (J : JS) (x : Option Addr) (n c : Nat) (l : List Int) (w : World) (lo N : Nat) (X : Nat → Prop) (d : Dk), Below W.heap.size W w → Jn w F a J → J.ok d → W.heap.size ≤ lo → (∀ y, X y → y < w.heap.size) → BoxAt w ⟨lo, fun y => y ∈ F ∨ X y⟩ J.g d N → N + 8 * J.many ≤ 1099511627776 → InB w x l → isB l → l.length = n → n ≤ c → c ≤ maxLen → (x = none → c = 0 ∧ l = []) → J.dead = false → (n : Int) ≤ J.room →
    Calls Tryd.prog 22 #[.pointer (some ⟨a, 0, none⟩), .slice x n c] w fun en w' => en = .returned (errV (J.app l d).1) ∧ ∃ F', Jn w' F' a (J.more l (J.app l d).1) ∧ (∀ b ∈ F', b ∈ F ∨ w.heap.size ≤ b) ∧ BoxAt w' ⟨lo, fun y => y ∈ F' ∨ X y⟩ J.g (J.app l d).2 (N + 8 * J.many) ∧ JTurns F W.heap.size w w'
  sync : ∀ (F : List Nat) (a : Nat) (J : JS) (w : World) (lo N : Nat) (X : Nat → Prop) (d : Dk), Below W.heap.size W w → Jn w F a J → J.ok d → W.heap.size ≤ lo → (∀ y, X y → y < w.heap.size) → BoxAt w ⟨lo, fun y => y ∈ F ∨ X y⟩ J.g d N → N ≤ 1099511627776 → J.dead = false →
    Calls Tryd.prog 31 #[.pointer (some ⟨a, 0, none⟩)] w fun en w' => en = .returned (errV d.syncE) ∧ ∃ F', Jn w' F' a { J with dead := decide (d.syncE ≠ 0) } ∧ (∀ b ∈ F', b ∈ F ∨ w.heap.size ≤ b) ∧ BoxAt w' ⟨lo, fun y => y ∈ F' ∨ X y⟩ J.g d.sync N ∧ JTurns F W.heap.size w w'
  syncD : ∀ (F : List Nat) (a : Nat) (J : JS) (w : World) (d : Dk), Below W.heap.size W w → Jn w F a J → J.ok d → J.dead = true →
    Calls Tryd.prog 31 #[.pointer (some ⟨a, 0, none⟩)] w fun en w' => en = .returned (errV 151) ∧ Below w.heap.size w w'
  read : ∀ (h g : Nat) (fr many e : Int) (w : World) (B : Base) (N : Nat) (d : Dk), Below W.heap.size W w → w.heap[h]? = some (.cells #[.pointer (some ⟨g, 0, none⟩)] 86) → BoxAt w B g d N → d.byte → d.many ≤ 524288 → okInt fr → okInt many → okInt e →
    Calls Tryd.prog 25 #[.pointer (some ⟨h, 0, none⟩), .int .i64 fr, .int .i64 many, .int .i64 e] w fun en w' => ∃ v rs, en = .returned (.tuple #[v, errV (jRdE d fr many e)]) ∧ rs.map Prod.snd = jRdL d fr many e ∧ (∀ p ∈ rs, isB p.2) ∧ OwnRO w' w.heap.size v rs ∧ Below w.heap.size w w'
end Go.Proofs.YtophhnolnlbecaaDoor
namespace Go.Proofs.YtophhnolnlbecaaDoor
open Go Go.RowKit

theorem no_defer {ops : Array Oper} (h : (ops.toList.all fun o => match o.op with | .defer _ => false | _ => true) = true) : ∀ (i : Nat) (o : Oper), ops[i]? = some o → ∀ c, o.op ≠ .defer c := by
  intro i o ho c hc
  have h1 := List.all_eq_true.1 h o (by rw [← Array.getElem?_toList] at ho; exact List.mem_of_getElem? ho)
  rw [hc] at h1
  cases h1
theorem inround_of_any {l n : Nat} {P : Program} {md : Region.Mode} {ops : Array Oper} {Q : Exit → Act → World → Prop} (hnd : ∀ (i : Nat) (o : Oper), ops[i]? = some o → ∀ c, o.op ≠ .defer c) (hlo : ¬ LetsOut Q) :
    ∀ (fuel : Nat) (listed : Array Bool) (a : Act) (w : World), wpAny P md ops Q fuel listed a w → wpAnyIn (Fence.wide.inRound l) n P md ops Q fuel listed a w := by
  have step : ∀ (i : Nat) (K K' : Act → World → Prop) (a : Act) (w : World), (∀ a w, K a w → K' a w) → wpOp P ops Q i K a w → wpOpIn (Fence.wide.inRound l) n P ops Q i K' a w := by
    intro i K K' a w hK h
    unfold wpOp at h
    unfold wpOpIn
    cases ho : ops[i]? with
    | none => rw [ho] at h; exact hK _ _ h
    | some o =>
      rw [ho] at h
      simp only at h ⊢
      split
      · rename_i hw
        rw [if_pos hw] at h
        rcases h with h | ⟨-, h⟩
        · refine ⟨fun _ _ => trivial, ?_⟩
          rw [show (Fence.wide.inRound l).round = some l from rfl, Oper.semAt_some l _ _ (hnd i o ho)]
          unfold Oper.wp at h
          generalize (execOp a.eval o).run P w = r at h ⊢
          cases r with
          | ok nx w' =>
            cases nx with
            | value v => exact hK _ _ h
            | skip => exact hK _ _ h
            | defer d => exact hK _ _ h
            | enter f args =>
              refine ⟨fun hd => (by cases hd), CallsIn.inRound l (callsIn_wide.2 (Calls.mono h ?_))⟩
              intro e w'' he
              cases e with
              | returned v => exact hK _ _ he
              | panicked c => exact he
              | outgrown => exact he
            | row row args => exact ⟨fun hd => (by cases hd), fun c cs _ => let ⟨v, w'', hr, hs⟩ := h c cs; ⟨v, w'', hK _ _ hr, stepsIn_wide.2 hs⟩⟩
            | _ => exact h.elim
          | halt x w' =>
            cases x <;> first | exact h | exact h.elim
        · exact absurd h hlo
      · rename_i hw
        rw [if_neg hw] at h
        exact ⟨fun _ _ => trivial, hK _ _ h⟩
  intro fuel
  induction fuel with
  | zero => intro listed a w h; exact h
  | succ fuel ih =>
    intro listed a w h
    exact ⟨h.1, fun i hi => step i _ _ a w (ih _) (h.2 i hi)⟩
theorem region_round {l n id : Nat} {P : Program} {ops : Array Oper} {Q : Exit → Act → World → Prop} {a : Act} {w : World} (S : World → Prop) (hm : P.follows .mixedOrders = true) (hnd : ∀ (i : Nat) (o : Oper), ops[i]? = some o → ∀ c, o.op ≠ .defer c) (hlo : ¬ LetsOut Q) (hS : S w.drew)
    (h : S w.drew → wpAnyH P .any ops Q S ops.size (Array.replicate ops.size false) a w.drew) : (Code.region id ops true).wpIn (Fence.wide.inRound l) n P Q a w :=
  wpIn_region_any hm (inround_of_any hnd hlo _ _ _ _ (wpAny_of_held _ _ _ _ (h hS)))
/-- A call that comes up alone. -/
theorem wpAnyH_call {P : Program} {md : Region.Mode} {ops : Array Oper} {Q : Exit → Act → World → Prop} {S : World → Prop} {fuel : Nat} {listed : Array Bool} {a : Act} {w : World} {i : Nat} {o : Oper} (hr : Region.ready md ops listed = [i]) (ho : ops[i]? = some o) (hgd : o.guard = none) (f : FuncId) (args : Array Value)
    (hrun : (execOp a.eval o).run P w = .ok (.enter f args) w) (h : Calls P f args w fun e w' => ∃ v, e = .returned v ∧ S w' ∧ wpAnyH P md ops Q S fuel (listed.setIfInBounds i true) (a.put o.dst v) w') : wpAnyH P md ops Q S (fuel + 1) listed a w := by
  refine wpAnyH_all hr (by simp) fun j hj => ?_
  rw [List.mem_singleton.1 hj]
  unfold wpOp
  rw [ho]
  have hw : Region.wanted o (yielded ops a.tmps) = true := by simp [Region.wanted, hgd]
  simp only [hw, if_true]
  refine .inl ?_
  unfold Oper.wp
  rw [hrun, Oper.upon_enter]
  refine h.mono ?_
  rintro e w' ⟨v, rfl, hk⟩
  exact hk
/-- An append whose run is known, in a region within a fence. -/
theorem stepIn_apRun {F : Fence} {n : Nat} {P : Program} {ops : Array Oper} {o : Oper} {a : Act} {w : World} {K : Act → World → Prop} {Q : Exit → Act → World → Prop} {E : Prop} (hgd : o.guard = none) (s x : Operand) (t : TypeId)
    (ho : o.op = .call { callee := .builtin .append, args := #[s, x], argTypes := #[t, t] }) (v u v' : Value) (w' : World) (hs : a.eval s = v) (hx : a.eval x = u) (hr : (Builtin.append_ #[t, t] o.type #[v, u]).run P w = .ok v' w')
    (h : K (a.put o.dst v') w') : if Region.wanted o (yielded ops a.tmps) = true then Oper.wpIn F n P o a w K Q else E := by
  have hw : Region.wanted o (yielded ops a.tmps) = true := by simp [Region.wanted, hgd]
  rw [if_pos hw]
  unfold Oper.wpIn
  refine ⟨by simp [Oper.about, ho, resolve, Target.leads, Sem.run_pure], ?_⟩
  rw [Oper.semAt_plain F _ _ (by rw [ho]; intro c hc; cases hc)]
  unfold execOp
  simp only [ho, resolve, invoke, builtin, Sem.run_bind, Sem.run_pure, Result.andThen_ok, List.map_toArray, List.map_cons, List.map_nil, hs, hx, hr]
  exact h
end Go.Proofs.YtophhnolnlbecaaDoor
namespace Go.Proofs.YtophhnolnlbecaaDoor
open Go.RowKit
set_option maxRecDepth 100000

def sizeJ (many : Nat) : Int := 4032 * (min many 2287542667870728 : Nat)
theorem sizeJ_is {J : JS} {d : Dk} (h : J.ok d) : sizeJ J.many = 4032 * (J.many : Int) := by
  have h1 := h.fits
  have h2 := h.small
  unfold sizeJ
  rw [Nat.min_eq_left (by omega)]
def JS.whole (J : JS) : List Int := strmK J.e J.rs J.rs.length
def jCells (J : JS) (h db : Nat) (v : Value) : Array Value := #[.pointer (some ⟨h, 0, none⟩), .int .i64 (J.fr : Int), .int .i64 (sizeJ J.many), .int .i64 J.e, .int .i64 (J.rs.length : Int), .int .i64 (J.len : Int), v, .func (.func 69) #[] #[.pointer (some ⟨db, 0, none⟩)]]
/-- The landed journal. -/
structure JAt (B : Nat) (w : World) (F : List Nat) (a h db : Nat) (v : Value) (J : JS) : Prop where
  obj : w.heap[a]? = some (.cells (jCells J h db v) 84)
  disk : w.heap[h]? = some (.cells #[.pointer (some ⟨J.g, 0, none⟩)] 86)
  box : w.heap[db]? = some (.cells #[.bool J.dead] 4)
  last : OwnB w B v (lastL J.whole)
  blocks : F = a :: h :: db :: v.ownBlock.toList
  low : B ≤ a ∧ B ≤ h ∧ B ≤ db
def JnP (W w : World) (F : List Nat) (a : Nat) (J : JS) : Prop := ∃ h db v, JAt W.heap.size w F a h db v J
theorem own_obj {w : World} {B g : Nat} {v : Value} {l : List Int} (h : OwnB w B v l) (hg : v.ownBlock = some g) : ∃ cur, w.heap[g]? = some (.cells cur 5) := by
  rcases h.2 with ⟨hv, _⟩ | ⟨g', cap, cur, hv, -, hc, _⟩
  · rw [hv] at hg; cases hg
  · rw [hv] at hg
    injection hg with hg
    subst hg
    exact ⟨cur, hc⟩
section
variable {B : Nat} {w w' : World} {F : List Nat} {a h db : Nat} {v : Value} {J : JS}
theorem JAt.mem (H : JAt B w F a h db v J) : ∀ b, b ∈ F ↔ (b = a ∨ b = h ∨ b = db ∨ v.ownBlock = some b) := fun b => by
  rw [H.blocks]
  simp only [List.mem_cons, Option.mem_toList]
theorem JAt.lt (H : JAt B w F a h db v J) : ∀ b ∈ F, B ≤ b ∧ b < w.heap.size := fun b hb => by
  rcases (H.mem b).1 hb with e | e | e | e
  · subst e; exact ⟨H.low.1, lt_of_block H.obj⟩
  · subst e; exact ⟨H.low.2.1, lt_of_block H.disk⟩
  · subst e; exact ⟨H.low.2.2, lt_of_block H.box⟩
  · exact H.last.block b e
theorem JAt.keep (H : JAt B w F a h db v J) (hb : ∀ b ∈ F, w'.heap[b]? = w.heap[b]?) : JAt B w' F a h db v J :=
  ⟨(hb a ((H.mem a).2 (.inl rfl))).trans H.obj, (hb h ((H.mem h).2 (.inr (.inl rfl)))).trans H.disk, (hb db ((H.mem db).2 (.inr (.inr (.inl rfl))))).trans H.box, H.last.keep fun g hg => hb g ((H.mem g).2 (.inr (.inr (.inr hg)))), H.blocks, H.low⟩
theorem JAt.then_ (H : JAt B w F a h db v J) (hb : Below w.heap.size w w') : JAt B w' F a h db v J := H.keep fun b hm => hb.block b (H.lt b hm).2
theorem JAt.form (H : JAt B w F a h db v J) : ∀ b ∈ F, ∃ cur t fr, w.heap[b]? = some (.cells cur t fr) ∧ t ≠ 77 ∧ t ≠ 100 := fun b hb => by
  rcases (H.mem b).1 hb with e | e | e | e
  · subst e; exact ⟨_, _, _, H.obj, by decide, by decide⟩
  · subst e; exact ⟨_, _, _, H.disk, by decide, by decide⟩
  · subst e; exact ⟨_, _, _, H.box, by decide, by decide⟩
  · obtain ⟨cur, hc⟩ := own_obj H.last e
    exact ⟨_, _, _, hc, by decide, by decide⟩
theorem JAt.notTB (H : JAt B w F a h db v J) : ∀ b ∈ F, ∃ o, w.heap[b]? = some o ∧ ¬ TB o := fun b hb => by
  obtain ⟨cur, t, fr, e, h1, h2⟩ := H.form b hb
  exact ⟨_, e, TB_no h1 h2 _ _⟩
theorem JAt.turns {lo : Nat} (H : JAt B w F a h db v J) (ht : Turns TB lo w w') : JAt B w' F a h db v J := H.keep fun b hb => by
  obtain ⟨o, e, h1⟩ := H.notTB b hb
  rw [ht.block b o e h1, e]
end
theorem row_cellJ {w : World} {b : Nat} {v : Value} {t : TypeId} (h : w.heap[b]? = some (.cells #[v] t (0, 0))) : w.cell? ⟨b, 0, none⟩ = some v ∧ w.frozen? ⟨b, 0, none⟩ = false := by
  unfold World.cell? World.frozen?
  simp [h]
theorem setCell_same {w : World} {b : Nat} {x : Value} {t : TypeId} (h : w.heap[b]? = some (.cells #[x] t (0, 0))) : w.setCell ⟨b, 0, none⟩ x = w := by
  have e : (w.setCell ⟨b, 0, none⟩ x).heap = w.heap := by
    apply Array.ext_getElem?
    intro i
    by_cases hi : i = b
    · subst hi
      have := heap_setCell_same _ _ 0 _ _ x h
      rw [h]
      simpa using this
    · exact Below.heap_setCell _ _ _ _ hi
  have e2 : w.setCell ⟨b, 0, none⟩ x = { w with heap := (w.setCell ⟨b, 0, none⟩ x).heap } := rfl
  rw [e2, e]
/-- What was answered, told on: it is dead, or nothing was wrong, or something was. -/
theorem heard_dead (db : Nat) (E : Int) (w : World) (hb : w.heap[db]? = some (.cells #[.bool true] 4)) :
    Calls Tryd.prog 69 #[errV E, .pointer (some ⟨db, 0, none⟩)] w fun en w' => en = .returned (errV 151) ∧ w = w' := by
  obtain ⟨c1, c2⟩ := row_cellJ hb
  rw [errV_mk (n := 151) (by decide)]
  generalize errV E = x
  clear hb
  go_enter Tryd.func69, Tryd.ntmps69
  go_wp2_with fail
  go_ret
  exact ⟨rfl, rfl⟩
theorem heard_good (db : Nat) (w : World) (hb : w.heap[db]? = some (.cells #[.bool false] 4)) :
    Calls Tryd.prog 69 #[.nilIface, .pointer (some ⟨db, 0, none⟩)] w fun en w' => en = .returned .nilIface ∧ w = w' := by
  obtain ⟨c1, c2⟩ := row_cellJ hb
  have hs := Lib.hid (setCell_same hb)
  clear hb
  go_enter Tryd.func69, Tryd.ntmps69
  go_wp2_with fail
  go_ret
  exact ⟨rfl, hs.out.symm⟩
theorem heard_bad (db : Nat) (E : Int) (hE : E ≠ 0) (w : World) (hb : w.heap[db]? = some (.cells #[.bool false] 4)) :
    Calls Tryd.prog 69 #[errV E, .pointer (some ⟨db, 0, none⟩)] w fun en w' => en = .returned (errV E) ∧ w' = w.setCell ⟨db, 0, none⟩ (.bool true) := by
  obtain ⟨c1, c2⟩ := row_cellJ hb
  rw [errV_mk hE]
  clear hb
  go_enter Tryd.func69, Tryd.ntmps69
  go_wp2_with fail
  go_ret
  exact ⟨rfl, rfl⟩
end Go.Proofs.YtophhnolnlbecaaDoor
