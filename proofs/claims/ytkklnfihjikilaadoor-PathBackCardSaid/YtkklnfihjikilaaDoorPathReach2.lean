/- The contract of Reach: no statement is proved here. -/
import Derived.Test.YtkklnfihjikilaaDoorPathReach
import Derived.OrdersHeld
namespace Go.Proofs.YtkklnfihjikilaaDoor
open Go.RowKit Go.Shelf
set_option maxRecDepth 100000
attribute [local go_sem] Oper.semAt_some

/-- A list of the call's own. -/
def ownsL (a : Option Addr) (c : Nat) (ts : List T) : T := .mk 6 0 ⟨#[]⟩ a c ts none 0 []
def reachV (v : V) (ps : List ByteArray) : List V := (reachS v ps).take 1000
/-- Between two rounds: the list in its box is of what has come. -/
structure ReachRel (w0 : World) (pre : List (Lain w0)) (W : World) : Prop where
  below : Below w0.heap.size w0 W
  size : w0.heap.size + 2 ≤ W.heap.size
  has : ∃ ra rc ts, W.heap[w0.heap.size + 1]? = some (.cells #[.slice ra ts.length rc] 28 (0, 0)) ∧ (ownsL ra rc ts).Own W (w0.heap.size + 2) ∧ ts.map T.val = valsOf pre
theorem owns_cells {w : World} {B : Nat} {R : List Row} (h : Owns w B R) : ∀ b ∈ blocksOf R, ∃ cs t f, w.heap[b]? = some (.cells cs t f) := by
  intro b hb
  obtain ⟨r, hr, hv⟩ := List.mem_filterMap.1 hb
  obtain ⟨-, h2⟩ := h r hr
  rcases h2 with ⟨hv', _⟩ | ⟨g, cap, cur, hv', hb', hg, _⟩
  · rw [hv'] at hv; cases hv
  · rw [hv'] at hv
    injection hv with hv
    subst hv
    exact ⟨_, _, _, hg⟩
theorem ReachRel.grown {w0 : World} {pre : List (Lain w0)} {X Y : World} {row : Option Nat} (h : ReachRel w0 pre X) (hg : X.grownBy Y row) (hr : ∀ r, row = some r → w0.heap.size ≤ r ∧ ∃ o : Obj, X.heap[r]? = some o ∧ o.isCells = false) : ReachRel w0 pre Y := by
  obtain ⟨h1, h2, ra, rc, ts, h3, h4, h5⟩ := h
  have hne : ∀ b, (∃ cs t f, X.heap[b]? = some (.cells cs t f)) → some b ≠ row := fun b ⟨cs, t, f, hc⟩ e => by
    obtain ⟨-, o, ho, hc'⟩ := hr b e.symm
    rw [hc] at ho
    cases ho
    cases hc'
  refine ⟨h1.grown hg (by omega) (fun k e => (hr k e).1), by have := hg.size; omega, ra, rc, ts, ?_, ⟨h4.ok, h4.owns.keep fun b hb => hg.block b (owns_lt h4.owns b hb).2 (hne b (owns_cells h4.owns b hb)), h4.nodup⟩, h5⟩
  rw [hg.block _ (by omega) (hne _ ⟨_, _, _, h3⟩)]
  exact h3

theorem setCell_comm (w : World) (p q : Addr) (v u : Value) (h : p.block ≠ q.block) : (w.setCell p v).setCell q u = (w.setCell q u).setCell p v := by
  unfold World.setCell
  simp only
  congr 1
  apply Array.ext_getElem?
  intro i
  simp only [Array.getElem?_modify]
  by_cases h1 : q.block = i
  · have h2 : ¬ p.block = i := fun e => h (e.trans h1.symm)
    simp [h1, h2]
  · simp [h1]
theorem set5_comm (w : World) (g o L : Nat) (v a b c d e : Value) (h : g ≠ L) :
    (((((w.setCell ⟨L, 0, none⟩ v).setCell ⟨g, o, none⟩ a).setCell ⟨g, o + 1, none⟩ b).setCell ⟨g, o + 2, none⟩ c).setCell ⟨g, o + 3, none⟩ d).setCell ⟨g, o + 4, none⟩ e = (putCells w g o [a, b, c, d, e]).setCell ⟨L, 0, none⟩ v := by
  rw [put5]
  rw [setCell_comm _ ⟨L, 0, none⟩ ⟨g, o, none⟩ _ _ (Ne.symm h), setCell_comm _ ⟨L, 0, none⟩ ⟨g, o + 1, none⟩ _ _ (Ne.symm h), setCell_comm _ ⟨L, 0, none⟩ ⟨g, o + 2, none⟩ _ _ (Ne.symm h), setCell_comm _ ⟨L, 0, none⟩ ⟨g, o + 3, none⟩ _ _ (Ne.symm h), setCell_comm _ ⟨L, 0, none⟩ ⟨g, o + 4, none⟩ _ _ (Ne.symm h)]
theorem reach_step {w0 W U w3 : World} {pre : List (Lain w0)} {x : Lain w0} {ra : Option Addr} {rc : Nat} {ts : List T} {y : T} {g cap B0 : Nat} {zs : List Value}
    (hR : ReachRel w0 pre W) (hL : U.heap[w0.heap.size + 1]? = some (.cells #[.slice ra ts.length rc] 28 (0, 0))) (hown : (ownsL ra rc ts).Own W (w0.heap.size + 2)) (hv : ts.map T.val = valsOf pre) (htl : ts.length < 1000)
    (hB : Below W.heap.size W U) (hy : y.Own U W.heap.size) (hy2 : y.val = x.1.val) (hz : zs.length = 5)
    (hrow : w3.ownsRow (w0.heap.size + 2) 31 5 (.slice (some ⟨g, 0, none⟩) (ts.length + 1) cap) (ts.length + 1) (ts.flatMap T.cells ++ zs)) (hg : U.grownBy w3 (Value.slice ra ts.length rc).ownBlock) (hd : (Value.slice ra ts.length rc).ownBlock = some g ∨ g = U.heap.size) :
    ReachRel w0 (pre ++ [x]) ((putCells w3 g (ts.length * 5) y.cells).setCell ⟨w0.heap.size + 1, 0, none⟩ (.slice (some ⟨g, 0, none⟩) (ts.length + 1) cap)) ∧
    KeepsFrom B0 W ((putCells w3 g (ts.length * 5) y.cells).setCell ⟨w0.heap.size + 1, 0, none⟩ (.slice (some ⟨g, 0, none⟩) (ts.length + 1) cap)) ∧
    Keep w0.heap.size (w0.heap.size + 1) W ((putCells w3 g (ts.length * 5) y.cells).setCell ⟨w0.heap.size + 1, 0, none⟩ (.slice (some ⟨g, 0, none⟩) (ts.length + 1) cap)) ∧
    ((putCells w3 g (ts.length * 5) y.cells).setCell ⟨w0.heap.size + 1, 0, none⟩ (.slice (some ⟨g, 0, none⟩) (ts.length + 1) cap)).heap[w0.heap.size + 1]? = some (.cells #[.slice (some ⟨g, 0, none⟩) (ts.length + 1) cap] 28 (0, 0)) := by
  have hW := hR.size
  have hU := hB.size
  have hyl : y.cells.length = 5 := cells_len y
  have hfl : (ts.flatMap T.cells).length = ts.length * 5 := flat_len ts
  generalize hP : putCells w3 g (ts.length * 5) y.cells = P
  have op : Only [g] w3 P := by rw [← hP]; exact put_only _ _ _ _
  have hgw : w0.heap.size + 2 ≤ g := by
    rcases hd with h | h
    · exact ((own_rowL hown).lt g h).1
    · omega
  have hrowP : P.ownsRow (w0.heap.size + 2) 31 5 (.slice (some ⟨g, 0, none⟩) (ts.length + 1) cap) (ts.length + 1) (ts.flatMap T.cells ++ y.cells) := by
    have h1 := own_mid (xs := ts.flatMap T.cells) (vs := zs) (ys := []) (us := y.cells) (by rw [List.append_nil]; exact hrow) (by omega)
    rw [List.append_nil, hfl, hP] at h1
    exact h1
  have hne : ∀ k, k < U.heap.size → some k ≠ (Value.slice ra ts.length rc).ownBlock → k ≠ g := by
    intro k hk h e
    subst e
    rcases hd with h1 | h1
    · exact h h1.symm
    · omega
  have hgP : U.grownBy P (Value.slice ra ts.length rc).ownBlock := ⟨op.os.trans hg.os, op.tape.trans hg.tape, op.output.trans hg.output, Nat.le_trans hg.size op.size, fun k hk h => by
    rw [op.block k (Nat.lt_of_lt_of_le hk hg.size) (by simpa using hne k hk h)]
    exact hg.block k hk h⟩
  have HA := own_addL hown hy hB (Nat.le_refl _) (by omega) (by unfold okLen; omega) (cap_of hrowP) hrowP hgP (hd.imp id (fun h => by omega))
  have ob : ∀ k, (Value.slice ra ts.length rc).ownBlock = some k → w0.heap.size + 2 ≤ k ∧ k < W.heap.size := fun k h => (own_rowL hown).lt k h
  have hLP : P.heap[w0.heap.size + 1]? = some (.cells #[.slice ra ts.length rc] 28 (0, 0)) := by
    rw [hgP.block _ (by omega) (fun e => by have := (ob _ e.symm).1; omega)]
    exact hL
  have ho5 : Only [w0.heap.size + 1] P (P.setCell ⟨w0.heap.size + 1, 0, none⟩ (.slice (some ⟨g, 0, none⟩) (ts.length + 1) cap)) := (Only.refl _ P).setCell (p := ⟨w0.heap.size + 1, 0, none⟩) (.inl (by simp)) _
  have hF : (P.setCell ⟨w0.heap.size + 1, 0, none⟩ (.slice (some ⟨g, 0, none⟩) (ts.length + 1) cap)).heap[w0.heap.size + 1]? = some (.cells #[.slice (some ⟨g, 0, none⟩) (ts.length + 1) cap] 28 (0, 0)) := by
    have := heap_setCell_same _ _ 0 _ _ (.slice (some ⟨g, 0, none⟩) (ts.length + 1) cap) hLP
    simpa using this
  have hbF : Below w0.heap.size W (P.setCell ⟨w0.heap.size + 1, 0, none⟩ (.slice (some ⟨g, 0, none⟩) (ts.length + 1) cap)) :=
    ((hB.mono (by omega : w0.heap.size ≤ W.heap.size)).grown hgP (by omega) (fun k e => by have := (ob k e).1; omega)).setCell (p := ⟨w0.heap.size + 1, 0, none⟩) (by simp) _
  have hsz := ho5.size
  have hsz2 := op.size
  have hsz3 := hg.size
  have heap_of : ∀ k, k < W.heap.size → k ≠ w0.heap.size + 1 → (Value.slice ra ts.length rc).ownBlock ≠ some k → (P.setCell ⟨w0.heap.size + 1, 0, none⟩ (.slice (some ⟨g, 0, none⟩) (ts.length + 1) cap)).heap[k]? = W.heap[k]? := by
    intro k hk h1 h2
    rw [ho5.block k (by omega) (by simpa using h1), hgP.block k (by omega) (Ne.symm h2), hB.block k hk]
  have hlW : lblk (w0.heap.size + 1) W = (Value.slice ra ts.length rc).ownBlock := by
    unfold lblk
    rw [row_cells ((hB.block _ (by omega)).symm.trans hL)]
    cases ra <;> rfl
  refine ⟨⟨hR.below.trans hbF, by omega, some ⟨g, 0, none⟩, cap, ts ++ [y], by rw [List.length_append]; exact hF, HA.keep ho5 (by simp) (Nat.le_refl _), by rw [List.map_append, hv, valsOf_append]; simp [valsOf, hy2]⟩, ⟨by omega, fun k o _ hk hc => ?_⟩, ⟨hbF, ?_, fun k o hk hc h1 h2 => ?_⟩, hF⟩
  · have hkl := (Array.getElem?_eq_some_iff.1 hk).1
    rw [heap_of k hkl ?_ ?_]
    · exact hk
    · intro e
      subst e
      have := (hB.block _ hkl).symm.trans hL
      rw [hk] at this
      cases this
      cases hc
    · intro e
      obtain ⟨cs, t, f, h⟩ := owns_cells hown.owns k (by unfold ownsL; rw [rows_mk]; simp only [blocksOf, List.filterMap_cons, e]; exact List.mem_cons_self ..)
      rw [hk] at h
      cases h
      cases hc
  · have hlb : lblk (w0.heap.size + 1) (P.setCell ⟨w0.heap.size + 1, 0, none⟩ (.slice (some ⟨g, 0, none⟩) (ts.length + 1) cap)) = some g := by
      unfold lblk
      rw [row_cells hF]
      rfl
    rw [hlb, hlW]
    rcases hd with h | h
    · exact .inl h.symm
    · refine .inr ⟨g, rfl, by omega, ?_⟩
      have := hrowP.lt g rfl
      omega
  · have hkl := (Array.getElem?_eq_some_iff.1 hk).1
    rw [heap_of k hkl h1 ?_]
    · exact hk
    · intro e
      exact h2 (hlW.trans e)
/-- While a round's statement is worked out. -/
structure BodySt (w0 W U : World) (Bx : Nat) (x : T) (ra : Option Addr) (rc n : Nat) : Prop where
  hx : U.heap[Bx]? = some (.cells x.cells.toArray 31 (0, 0))
  hL : U.heap[w0.heap.size + 1]? = some (.cells #[.slice ra n rc] 28 (0, 0))
  hB : Below W.heap.size W U
  hin : x.In U
theorem BodySt.then_ {w0 W U U' : World} {Bx : Nat} {x : T} {ra : Option Addr} {rc n : Nat} (h : BodySt w0 W U Bx x ra rc n) (k : Below U.heap.size U U') : BodySt w0 W U' Bx x ra rc n :=
  ⟨row_then h.hx k, row_then h.hL k, below_then h.hB k, h.hin.then_ k⟩
theorem BodySt.new {w0 W U : World} {Bx : Nat} {x : T} {ra : Option Addr} {rc n : Nat} (_h : BodySt w0 W U Bx x ra rc n) (o : Obj) : (U.alloc o).heap[U.heap.size]? = some o := heap_alloc_new U o
theorem below_drew (W : World) : Below W.heap.size W W.drew := (Below.refl _ W).drew
theorem row_at {w : World} {g : Nat} {cs : Array Value} {t : TypeId} {f : Nat × Nat} (h : w.heap[g]? = some (.cells cs t f)) : ∀ j u, cs.toList[j]? = some u → w.cell? ((⟨g, 0, none⟩ : Addr).add j) = some u := by
  intro j u hj
  rw [show (⟨g, 0, none⟩ : Addr).add j = ⟨g, j, none⟩ by unfold Addr.add; split <;> simp_all]
  rw [row_cells h, ← Array.getElem?_toList]
  exact hj
theorem no_defer {ops : Array Oper} (h : (ops.toList.all fun o => match o.op with | .defer _ => false | _ => true) = true) : ∀ (i : Nat) (o : Oper), ops[i]? = some o → ∀ c, o.op ≠ .defer c := by
  intro i o ho c hc
  have h1 := List.all_eq_true.1 h o (by rw [← Array.getElem?_toList] at ho; exact List.mem_of_getElem? ho)
  rw [hc] at h1
  cases h1
theorem inround_of_any {l n : Nat} {P : Program} {md : Region.Mode} {ops : Array Oper} {Q : Exit → Act → World → Prop} (hnd : ∀ (i : Nat) (o : Oper), ops[i]? = some o → ∀ c, o.op ≠ .defer c) (hlo : ¬ LetsOut Q) :
    ∀ (fuel : Nat) (listed : Array Bool) (a : Act) (w : World), wpAny P md ops Q fuel listed a w → wpAnyIn (Fence.wide.inRound l) n P md ops Q fuel listed a w := by
  have step : ∀ (i : Nat) (K K' : Act → World → Prop) (a : Act) (w : World), (∀ a w, K a w → K' a w) → wpOp P ops Q i K a w → wpOpIn (Fence.wide.inRound l) n P ops Q i K' a w := by
    intro i K K' a w hK h
    unfold wpOp at h
    unfold wpOpIn
    cases ho : ops[i]? with
    | none => rw [ho] at h; exact hK _ _ h
    | some o =>
      rw [ho] at h
      simp only at h ⊢
      split
      · rename_i hw
        rw [if_pos hw] at h
        rcases h with h | ⟨-, h⟩
        · refine ⟨fun _ _ => trivial, ?_⟩
          rw [show (Fence.wide.inRound l).round = some l from rfl, Oper.semAt_some l _ _ (hnd i o ho)]
          unfold Oper.wp at h
          generalize (execOp a.eval o).run P w = r at h ⊢
          cases r with
          | ok nx w' =>
            cases nx with
            | value v => exact hK _ _ h
            | skip => exact hK _ _ h
            | defer d => exact hK _ _ h
            | enter f args =>
              refine ⟨fun hd => (by cases hd), CallsIn.inRound l (callsIn_wide.2 (Calls.mono h ?_))⟩
              intro e w'' he
              cases e with
              | returned v => exact hK _ _ he
              | panicked c => exact he
              | outgrown => exact he
            | row row args => exact ⟨fun hd => (by cases hd), fun c cs _ => let ⟨v, w'', hr, hs⟩ := h c cs; ⟨v, w'', hK _ _ hr, stepsIn_wide.2 hs⟩⟩
            | _ => exact h.elim
          | halt x w' =>
            cases x <;> first | exact h | exact h.elim
        · exact absurd h hlo
      · rename_i hw
        rw [if_neg hw] at h
        exact ⟨fun _ _ => trivial, hK _ _ h⟩
  intro fuel
  induction fuel with
  | zero => intro listed a w h; exact h
  | succ fuel ih =>
    intro listed a w h
    exact ⟨h.1, fun i hi => step i _ _ a w (ih _) (h.2 i hi)⟩
theorem holdW_start (w : World) (B : Nat) : (ownsL none 0 []).Own w B := by
  refine ⟨by simp [ownsL, T.ok, T.okL, T.okD, okInt, okLen, okFar, ByteArray.size], fun r hr => ?_, by simp [ownsL, T.rows, T.rowsL, T.rowsD, blocksOf, Value.ownBlock]⟩
  simp [ownsL, T.rows, T.rowsL, T.rowsD] at hr
  rcases hr with rfl | rfl <;> exact World.ownsRow_nil _ _ _ _
theorem keep_put {n B l : Nat} {W : World} {o o' : Obj} (hB : B < l) (hn : n ≤ l) (hl : W.heap[l]? = some o) (hc : o.isCells = false) : Keep n B W (W.putObj l o') := by
  have hs := (Array.getElem?_eq_some_iff.1 hl).1
  have hb : Below l W (W.putObj l o') := (Below.refl l W).grown (grownBy_putObj' W l o') (by omega) (fun k e => by cases e; omega)
  refine ⟨hb.mono hn, .inl ?_, fun k o1 hk hcells _ _ => ?_⟩
  · unfold lblk
    rw [hb.cell (p := ⟨B, 0, none⟩) hB]
  · rw [(grownBy_putObj' W l o').block k (Array.getElem?_eq_some_iff.1 hk).1 (fun e => by cases e; rw [hl] at hk; cases hk; rw [hc] at hcells; cases hcells)]
    exact hk

theorem room_of {w : World} {B : Nat} {e : TypeId} {c g n cap : Nat} {xs : List Value} (h : w.ownsRow B e c (.slice (some ⟨g, 0, none⟩) n cap) n xs) : n ≤ cap := by
  obtain ⟨_, h2⟩ := h
  rcases h2 with ⟨hv, _⟩ | ⟨g', cap', cur, hv, hb, hg, hkc, hm, _⟩
  · cases hv
  · injection hv with _ _ e3; omega
theorem reach_box {w0 W U w3 : World} {pre : List (Lain w0)} {ra : Option Addr} {rc : Nat} {ts : List T} (hR : ReachRel w0 pre W) (hown : (ownsL ra rc ts).Own W (w0.heap.size + 2)) (hL : U.heap[w0.heap.size + 1]? = some (.cells #[.slice ra ts.length rc] 28 (0, 0)))
    (hB : Below W.heap.size W U) (hg : U.grownBy w3 (Value.slice ra ts.length rc).ownBlock) : w3.heap[w0.heap.size + 1]? = some (.cells #[.slice ra ts.length rc] 28 (0, 0)) := by
  have hW := hR.size
  have hU := hB.size
  rw [hg.block _ (by omega) (fun e => by have := ((own_rowL hown).lt _ e.symm).1; omega)]
  exact hL
theorem reach_ne {w0 W U : World} {pre : List (Lain w0)} {ra : Option Addr} {rc : Nat} {ts : List T} {g : Nat} (hR : ReachRel w0 pre W) (hown : (ownsL ra rc ts).Own W (w0.heap.size + 2)) (hB : Below W.heap.size W U) (hd : (Value.slice ra ts.length rc).ownBlock = some g ∨ g = U.heap.size) : g ≠ w0.heap.size + 1 := by
  have hW := hR.size
  have hU := hB.size
  rcases hd with h | h
  · have := ((own_rowL hown).lt g h).1
    omega
  · omega
theorem reach_only {W : World} {D : Nat} {o o' : Obj} (hl : W.heap[D]? = some o) (hc : o.isCells = false) : ∀ b : Nat, (∃ cs t f, W.heap[b]? = some (Obj.cells cs t f)) → (W.putObj D o').heap[b]? = W.heap[b]? := by
  rintro b ⟨cs, t, f, h⟩
  exact (grownBy_putObj' W D o').block b (Array.getElem?_eq_some_iff.1 h).1 (fun e => by injection e with e; subst e; rw [hl] at h; cases h; cases hc)
theorem reach_end {w W W0 : World} {ra : Option Addr} {rc : Nat} {ts : List T} {D : Nat} {ds : Option (List Deferred)} (hown : (ownsL ra rc ts).Own W (w.heap.size + 2)) (_hsz : W0.heap.size = w.heap.size + 4) (hD : W0.heap.size ≤ D) (hK : W.heap[D]? = some (.deferred ds)) {o' : Obj} : (ownsL ra rc ts).Own (W.putObj D o') w.heap.size :=
  have h1 := hown.keep (B' := w.heap.size) (Only.refl [] _) (by simp) (by omega)
  ⟨h1.ok, h1.owns.keep fun b hb => reach_only hK rfl b (owns_cells h1.owns b hb), h1.nodup⟩
theorem reach_endB {w W W0 : World} {D : Nat} {o : Obj} (hb : Below w.heap.size w W) (hsz : W0.heap.size = w.heap.size + 4) (hD : W0.heap.size ≤ D) (hK : W.heap[D]? = some o) {o' : Obj} : Below w.heap.size w (W.putObj D o') :=
  hb.grown (grownBy_putObj' W D o') (by have := hb.size; omega) (fun k e => by injection e with e; omega)
set_option maxHeartbeats 4000000 in
theorem reach_any (t : T) (ok : t.ok) (pa : Option Addr) (pc : Nat) (ps : List ByteArray) (w : World) (hin : t.In w) (hps : Parts w pa pc ps) : Calls Tryd.prog 22 #[t.arg, .slice pa ps.length pc] w fun e w' =>
    ∃ ra rc ts, e = .returned (.slice ra ts.length rc) ∧ ts.map T.val = reachV t.val ps ∧ (ownsL ra rc ts).Own w' w.heap.size ∧ Below w.heap.size w w' := by
  have HI := Lib.hid hin
  have HP := Lib.hid hps
  have HO := Lib.hid ok
  clear hin hps ok
  obtain ⟨kx, nx, sx, lax, lcx, lx, dax, dcx, dx⟩ := t
  show Calls _ _ #[.agg #[.int .i64 kx, .int .i64 nx, .string sx, .slice lax lx.length lcx, .slice dax dx.length dcx], .slice pa ps.length pc] _ _
  refine (callsIn_wide (n := 5)).1 ?_
  refine callsIn_of_wp_marks Tryd.func22 rfl trivial ?_ rfl
  simp only [Tryd.ntmps22, List.size_toArray, List.length_cons, List.length_nil, Nat.reduceAdd, Nat.reduceSub, Array.replicate_succ, Array.replicate_zero, List.push_toArray, List.append_toArray, List.nil_append, List.cons_append]
  gi_wp2
  refine ⟨trivial, (callsIn_wide.2 (met_any (T.mk kx nx sx lax lcx lx dax dcx dx) pa ps.length pc _)).mono ?_⟩
  rintro e w' ⟨rfl, rfl⟩
  dsimp only [T.cells]
  gi_wp2
  have qL := row_then (row_then (heap_alloc2_new w (.cells #[.int .i64 kx, .int .i64 nx, .string sx, .slice lax lx.length lcx, .slice dax dx.length dcx] 31) (.cells #[.slice none 0 0] 28)) (below1 _ (.cells #[.int .i64 kx, .int .i64 nx, .string sx, .slice lax lx.length lcx, .slice dax dx.length dcx] 31))) (below1 _ (.cells #[.slice pa ps.length pc] 23))
  have qV := heap_alloc2_old ((w.alloc (.cells #[.int .i64 kx, .int .i64 nx, .string sx, .slice lax lx.length lcx, .slice dax dx.length dcx] 31)).alloc (.cells #[.slice none 0 0] 28)) (.cells #[.int .i64 kx, .int .i64 nx, .string sx, .slice lax lx.length lcx, .slice dax dx.length dcx] 31) (.cells #[.slice pa ps.length pc] 23)
  have qP := heap_alloc2_new ((w.alloc (.cells #[.int .i64 kx, .int .i64 nx, .string sx, .slice lax lx.length lcx, .slice dax dx.length dcx] 31)).alloc (.cells #[.slice none 0 0] 28)) (.cells #[.int .i64 kx, .int .i64 nx, .string sx, .slice lax lx.length lcx, .slice dax dx.length dcx] 31) (.cells #[.slice pa ps.length pc] 23)
  have qB := Lib.hid (below_then (below2 w (.cells #[.int .i64 kx, .int .i64 nx, .string sx, .slice lax lx.length lcx, .slice dax dx.length dcx] 31) (.cells #[.slice none 0 0] 28)) (below2 _ (.cells #[.int .i64 kx, .int .i64 nx, .string sx, .slice lax lx.length lcx, .slice dax dx.length dcx] 31) (.cells #[.slice pa ps.length pc] 23)))
  have hsz : ((((w.alloc (.cells #[.int .i64 kx, .int .i64 nx, .string sx, .slice lax lx.length lcx, .slice dax dx.length dcx] 31)).alloc (.cells #[.slice none 0 0] 28)).alloc (.cells #[.int .i64 kx, .int .i64 nx, .string sx, .slice lax lx.length lcx, .slice dax dx.length dcx] 31)).alloc (.cells #[.slice pa ps.length pc] 23)).heap.size = w.heap.size + 4 := by simp
  simp only [World.size_alloc] at qV qP ⊢
  generalize (((w.alloc (.cells #[.int .i64 kx, .int .i64 nx, .string sx, .slice lax lx.length lcx, .slice dax dx.length dcx] 31)).alloc (.cells #[.slice none 0 0] 28)).alloc (.cells #[.int .i64 kx, .int .i64 nx, .string sx, .slice lax lx.length lcx, .slice dax dx.length dcx] 31)).alloc (.cells #[.slice pa ps.length pc] 23) = W0 at qL qV qP qB hsz ⊢
  have hlo : LOk (w.heap.size + 1) W0 := ⟨by omega, fun g e => by unfold lblk at e; rw [row_cells qL] at e; simp at e⟩
  have HS := met_stops w (w.heap.size + 1) (w.heap.size + 1 + 1) (w.heap.size + 1 + 1 + 1) (T.mk kx nx sx lax lcx lx dax dcx dx) HO.out HI.out pa pc ps HP.out W0 qB.out hlo qV qP
  have H0 : ReachRel w [] W0 := ⟨qB.out, by omega, none, 0, [], qL, holdW_start _ _, rfl⟩
  refine wpIn_rangeFunc_ownH rfl (by omega) (gf := 63) (lb := #[.pointer (some ⟨w.heap.size + 1 + 1 + 1, 0, none⟩), .pointer (some ⟨w.heap.size + 1 + 1, 0, none⟩)]) rfl trivial (enters_of Tryd.func63 (by kernel_rfl) rfl)
    HS Keep.trans (fun W l o o' hl h1 h2 _ => keep_put (by omega) (by omega) h1 h2) (Below.refl _ _) (fun _ => rfl)
    (fun pre W => ReachRel w pre W ∧ pre.length < 1000) (fun c pre W => c = .exit 0 ∧ ReachRel w pre W ∧ pre.length = 1000)
    (fun _ _ _ _ hs hg hr => ⟨hs.1.grown hg (fun r e => ⟨by have := (hr r e).1; omega, (hr r e).2⟩), hs.2⟩)
    (fun _ _ _ _ _ hs hg hr => ⟨hs.1, hs.2.1.grown hg (fun r e => ⟨by have := (hr r e).1; omega, (hr r e).2⟩), hs.2.2⟩)
    ⟨H0, by simp⟩
    (fun x a' W => ∃ Bx, w.heap.size + 1 < Bx ∧ W.heap[Bx]? = some (.cells x.1.cells.toArray 31 (0, 0)) ∧ a' = { tmps := #[.agg #[.int .i64 kx, .int .i64 nx, .string sx, .slice lax lx.length lcx, .slice dax dx.length dcx], .slice pa ps.length pc, .pointer (some ⟨w.heap.size, 0, none⟩), undef, .slice none 0 0, .pointer (some ⟨w.heap.size + 1, 0, none⟩), .pointer (some ⟨Bx, 0, none⟩), .agg #[.int .i64 kx, .int .i64 nx, .string sx, .slice lax lx.length lcx, .slice dax dx.length dcx], .slice pa ps.length pc, .func (.func 63) #[] #[.pointer (some ⟨w.heap.size + 1 + 1 + 1, 0, none⟩), .pointer (some ⟨w.heap.size + 1 + 1, 0, none⟩)], x.1.arg, undef, undef, undef, undef, undef, undef, undef, undef, undef, undef, undef], defers := [] })
    (fun x a' _ X Y row hs hg hr => by
      obtain ⟨Bx, h1, h2, h3⟩ := hs
      refine ⟨Bx, h1, ?_, h3⟩
      rw [hg.block _ (Array.getElem?_eq_some_iff.1 h2).1 (fun e => by obtain ⟨-, o, ho, hc⟩ := hr _ e.symm; rw [h2] at ho; cases ho; cases hc)]
      exact h2)
    ?assign ?body ?done ?stop
  case assign =>
    rintro l pre ⟨⟨ky, ny, sy, lay, lcy, ly, day, dcy, dy⟩, ox, ix⟩ W K ⟨hR, hlt⟩ hK
    have hz := hR.size
    dsimp only [T.arg, T.cells]
    gi_wp2
    exact hK _ _ ((KeepsOthers.alloc _ _).from _) (Keep.of_below (by omega) (by omega) (below1 _ _)) ⟨hR.grown (World.grownBy_alloc W _ none) (fun r e => by cases e), hlt⟩ ⟨W.heap.size, by omega, heap_alloc_new W _, rfl⟩
  case body =>
    rintro l pre ⟨⟨ky, ny, sy, lay, lcy, ly, day, dcy, dy⟩, ox, ix⟩ a' W hl - ⟨hR, hlt⟩ ⟨Bx, hBx, hx, rfl⟩ -
    have hz := hR.size
    have hRR := Lib.hid hR
    obtain ⟨hb, -, ra, rc, ts, hL, hown, hv⟩ := hR
    dsimp only [T.arg, T.cells] at hx ⊢
    have S : BodySt w W W Bx (.mk ky ny sy lay lcy ly day dcy dy) ra rc ts.length := ⟨hx, hL, Below.refl _ _, ix.below (Nat.le_refl _) hb⟩
    obtain ⟨i0, hi0, hz0, hz1, hz2⟩ := info_parts info_value
    have I0 := Lib.hid (And.intro hi0 (And.intro hz0 (And.intro hz1 hz2)))
    have HV := Lib.hid hv
    have HW := Lib.hid hown
    have htl : ts.length < 1000 := by
      have := congrArg List.length hv
      simp only [valsOf, List.length_map] at this
      omega
    clear hi0 hz0 hz1 hz2 hv hown hx hL hb
    gi_wp2
    rename_i Kr hKr
    have HEND : ∀ (F : World) (g2 cap : Nat) (t10 t11 t12 t13 t14 t15 t16 t17 : Value), ReachRel w (pre ++ [⟨T.mk ky ny sy lay lcy ly day dcy dy, ox, ix⟩]) F → KeepsFrom W0.heap.size W F → Keep w.heap.size (w.heap.size + 1) W F → F.heap[w.heap.size + 1]? = some (.cells #[.slice (some ⟨g2, 0, none⟩) (ts.length + 1) cap] 28 (0, 0)) →
        Kr { tmps := #[.agg #[.int .i64 kx, .int .i64 nx, .string sx, .slice lax lx.length lcx, .slice dax dx.length dcx], .slice pa ps.length pc, .pointer (some ⟨w.heap.size, 0, none⟩), undef, .slice none 0 0, .pointer (some ⟨w.heap.size + 1, 0, none⟩), .pointer (some ⟨Bx, 0, none⟩), .agg #[.int .i64 kx, .int .i64 nx, .string sx, .slice lax lx.length lcx, .slice dax dx.length dcx], .slice pa ps.length pc, .func (.func 63) #[] #[.pointer (some ⟨w.heap.size + 1 + 1 + 1, 0, none⟩), .pointer (some ⟨w.heap.size + 1 + 1, 0, none⟩)], t10, t11, t12, t13, t14, t15, t16, t17, undef, undef, undef, undef], defers := [] } F := by
      intro F g2 cap t10 t11 t12 t13 t14 t15 t16 t17 h1 h2 h3 h4
      refine hKr _ _ ?_
      have cl := row_cells h4
      have hpl : pre.length = ts.length := by
        have := congrArg List.length HV.out
        simp only [valsOf, List.length_map] at this
        omega
      gi_wp2
      · rename_i hc
        have hc := eq_of_beq hc
        exact ⟨h2, rfl, h1, by rw [List.length_append]; simp only [List.length_cons, List.length_nil]; omega⟩
      · rename_i hc
        have hc : ¬ ((ts.length : Int) + 1 = 1000) := by simpa using hc
        exact ⟨h2, h3, h1, by rw [List.length_append]; simp only [List.length_cons, List.length_nil]; omega⟩
    refine wpIn_region_any (by kernel_rfl) (inround_of_any (no_defer (by kernel_rfl)) (by rintro ⟨a, w, h⟩; exact h) _ _ _ _ ?_)
    have S := S.then_ (below_drew W)
    have cx := row_cells S.hx
    dsimp only [T.cells] at cx
    have cl := row_cells S.hL
    change wpAny _ _ _ _ _ _ _ W.drew
    generalize hU : W.drew = U at S cx cl ⊢
    -- REGION
    refine wpAny_ready (rs := [0, 1, 4]) (by kernel_rfl) (by simp) ?_
    refine AllReady.cons rfl (fun K hK => ?_) ?_
    · go_simp
      refine hK _ _ ?_
      clear hK K
      refine wpAny_take (i := 3) (v := .int .i64 ts.length) rfl (by kernel_rfl) (by kernel_rfl) (by kernel_rfl) (fun _ _ _ h => h) (Or.inl ⟨by rfl, fun w => by go_simp⟩) ?_
      simp only [Act.put, List.setIfInBounds_toArray, List.set_cons_succ, List.set_cons_zero]
      refine wpAny_ready (rs := [1, 4]) (by kernel_rfl) (by simp) ?_
      refine AllReady.cons rfl (fun K hK => ?_) ?_
      · go_simp
        refine hK _ _ ?_
        clear hK K
        refine wpAny_ready (rs := [2, 4]) (by kernel_rfl) (by simp) ?_
        refine AllReady.cons rfl (fun K hK => ?_) ?_
        · refine step_enter rfl 32 #[.agg #[.int .i64 ky, .int .i64 ny, .string sy, .slice lay ly.length lcy, .slice day dy.length dcy]] (by go_simp) ((clone_any (.mk ky ny sy lay lcy ly day dcy dy) ox _ S.hin).mono ?_)
          rintro e w2 ⟨⟨k', n', s', la', lc', l', da', dc', d'⟩, rfl, hv', ho, b2⟩
          refine ⟨_, rfl, ?_⟩
          dsimp only [T.arg, T.cells]
          refine hK _ _ ?_
          clear hK K
          try simp only [Act.put, List.setIfInBounds_toArray, List.set_cons_succ, List.set_cons_zero]
          have ho := ho.keep (B' := W.heap.size) (Only.refl [] _) (by simp) S.hB.size
          have S := S.then_ b2
          have cx := row_cells S.hx
          dsimp only [T.cells] at cx
          have cl := row_cells S.hL
          refine wpAny_ready (rs := [4]) (by kernel_rfl) (by simp) ?_
          refine AllReady.cons rfl (fun K hK => ?_) ?_
          · go_simp
            refine hK _ _ ?_
            clear hK K
            have hZ := S.new (.cells #[.int .i64 0, .int .i64 0, .string ⟨#[]⟩, .slice none 0 0, .slice none 0 0] 31)
            have ho := ho.keep (Only.of_below (S := []) (below1 _ (.cells #[.int .i64 0, .int .i64 0, .string ⟨#[]⟩, .slice none 0 0, .slice none 0 0] 31))) (by simp) (Nat.le_refl _)
            have S := S.then_ (below1 _ (.cells #[.int .i64 0, .int .i64 0, .string ⟨#[]⟩, .slice none 0 0, .slice none 0 0] 31))
            have cx := row_cells S.hx
            dsimp only [T.cells] at cx
            have cl := row_cells S.hL
            refine wpAny_ready (rs := [5]) (by kernel_rfl) (by simp) ?_
            refine AllReady.cons rfl (fun K hK => ?_) ?_
            · refine step_append_lies _ rfl (.tmp 11) (.tmp 15) 28 rfl (w.heap.size + 2) 31 i0 _ 5 80 Tryd.underlying28 I0.out.1 I0.out.2.1 I0.out.2.2.1 I0.out.2.2.2 rfl (by decide) (.slice ra ts.length rc) ts.length _ (by simp [Act.eval]) (row_keep (own_rowL HW.out) S.hB) _ 1 1 [.int .i64 0, .int .i64 0, .string ⟨#[]⟩, .slice none 0 0, .slice none 0 0] rfl rfl (row_at hZ) (by simp [Value.oneCell']) (by decide) (by unfold maxLen; omega) (by omega) (by have := S.hB.size; omega) _ rfl ?_
              intro g2 cap w3 hown3 hgrow3 hg3 hlt3
              try go_simp
              refine hK _ _ ?_
              clear hK K cx cl
              obtain ⟨v0, v1, v2, v3, v4, c0, c1, c2, c3, c4, f0, f1, f2, f3, f4⟩ := own_room5 hown3 (i := ts.length) (room_of hown3)
              have HE := reach_step (B0 := W0.heap.size) (x := ⟨.mk ky ny sy lay lcy ly day dcy dy, ox, ix⟩) hRR.out S.hL HW.out HV.out htl S.hB ho hv' rfl hown3 hgrow3 hg3
              have hL3 := reach_box hRR.out HW.out S.hL S.hB hgrow3
              have hgl := reach_ne hRR.out HW.out S.hB hg3
              have cl3 := row_cells hL3
              have fl3 := row_free hL3
              clear hown3 hgrow3 hg3 hZ ho
              simp only [T.cells, put5] at HE
              refine wpAny_take (i := 6) (v := .pointer (some ⟨g2, ts.length * 5, none⟩)) rfl (by kernel_rfl) (by kernel_rfl) (by kernel_rfl) (fun _ _ _ h => h) (Or.inl ⟨by rfl, fun w => by go_simp; intro h; omega⟩) ?_
              simp only [Act.put, List.setIfInBounds_toArray, List.set_cons_succ, List.set_cons_zero]
              refine wpAny_ready (rs := [7, 8]) (by kernel_rfl) (by simp) ?_
              refine AllReady.cons rfl (fun K hK => ?_) ?_
              · go_simp
                refine hK _ _ ?_
                clear hK K
                refine wpAny_ready (rs := [8]) (by kernel_rfl) (by simp) ?_
                refine AllReady.cons rfl (fun K hK => ?_) AllReady.nil
                go_simp
                refine hK _ _ ?_
                clear hK K
                refine wpAny_done (by kernel_rfl) ?_ _
                exact HEND _ g2 cap _ _ _ _ _ _ _ _ HE.1 HE.2.1 HE.2.2.1 HE.2.2.2
              refine AllReady.cons rfl (fun K hK => ?_) AllReady.nil
              go_simp
              refine hK _ _ ?_
              clear hK K
              refine wpAny_ready (rs := [7]) (by kernel_rfl) (by simp) ?_
              refine AllReady.cons rfl (fun K hK => ?_) AllReady.nil
              go_simp
              refine hK _ _ ?_
              clear hK K
              refine wpAny_done (by kernel_rfl) ?_ _
              rw [set5_comm _ _ _ _ _ _ _ _ _ _ hgl, put5]
              exact HEND _ g2 cap _ _ _ _ _ _ _ _ HE.1 HE.2.1 HE.2.2.1 HE.2.2.2
            exact AllReady.nil
          exact AllReady.nil
        refine AllReady.cons rfl (fun K hK => ?_) ?_
        · go_simp
          refine hK _ _ ?_
          clear hK K
          have hZ := S.new (.cells #[.int .i64 0, .int .i64 0, .string ⟨#[]⟩, .slice none 0 0, .slice none 0 0] 31)
          have S := S.then_ (below1 _ (.cells #[.int .i64 0, .int .i64 0, .string ⟨#[]⟩, .slice none 0 0, .slice none 0 0] 31))
          have cx := row_cells S.hx
          dsimp only [T.cells] at cx
          have cl := row_cells S.hL
          refine wpAny_ready (rs := [2]) (by kernel_rfl) (by simp) ?_
          refine AllReady.cons rfl (fun K hK => ?_) ?_
          · refine step_enter rfl 32 #[.agg #[.int .i64 ky, .int .i64 ny, .string sy, .slice lay ly.length lcy, .slice day dy.length dcy]] (by go_simp) ((clone_any (.mk ky ny sy lay lcy ly day dcy dy) ox _ S.hin).mono ?_)
            rintro e w2 ⟨⟨k', n', s', la', lc', l', da', dc', d'⟩, rfl, hv', ho, b2⟩
            refine ⟨_, rfl, ?_⟩
            dsimp only [T.arg, T.cells]
            refine hK _ _ ?_
            clear hK K
            try simp only [Act.put, List.setIfInBounds_toArray, List.set_cons_succ, List.set_cons_zero]
            have ho := ho.keep (B' := W.heap.size) (Only.refl [] _) (by simp) S.hB.size
            have hZ := row_then hZ b2
            have S := S.then_ b2
            have cx := row_cells S.hx
            dsimp only [T.cells] at cx
            have cl := row_cells S.hL
            refine wpAny_ready (rs := [5]) (by kernel_rfl) (by simp) ?_
            refine AllReady.cons rfl (fun K hK => ?_) ?_
            · refine step_append_lies _ rfl (.tmp 11) (.tmp 15) 28 rfl (w.heap.size + 2) 31 i0 _ 5 80 Tryd.underlying28 I0.out.1 I0.out.2.1 I0.out.2.2.1 I0.out.2.2.2 rfl (by decide) (.slice ra ts.length rc) ts.length _ (by simp [Act.eval]) (row_keep (own_rowL HW.out) S.hB) _ 1 1 [.int .i64 0, .int .i64 0, .string ⟨#[]⟩, .slice none 0 0, .slice none 0 0] rfl rfl (row_at hZ) (by simp [Value.oneCell']) (by decide) (by unfold maxLen; omega) (by omega) (by have := S.hB.size; omega) _ rfl ?_
              intro g2 cap w3 hown3 hgrow3 hg3 hlt3
              try go_simp
              refine hK _ _ ?_
              clear hK K cx cl
              obtain ⟨v0, v1, v2, v3, v4, c0, c1, c2, c3, c4, f0, f1, f2, f3, f4⟩ := own_room5 hown3 (i := ts.length) (room_of hown3)
              have HE := reach_step (B0 := W0.heap.size) (x := ⟨.mk ky ny sy lay lcy ly day dcy dy, ox, ix⟩) hRR.out S.hL HW.out HV.out htl S.hB ho hv' rfl hown3 hgrow3 hg3
              have hL3 := reach_box hRR.out HW.out S.hL S.hB hgrow3
              have hgl := reach_ne hRR.out HW.out S.hB hg3
              have cl3 := row_cells hL3
              have fl3 := row_free hL3
              clear hown3 hgrow3 hg3 hZ ho
              simp only [T.cells, put5] at HE
              refine wpAny_take (i := 6) (v := .pointer (some ⟨g2, ts.length * 5, none⟩)) rfl (by kernel_rfl) (by kernel_rfl) (by kernel_rfl) (fun _ _ _ h => h) (Or.inl ⟨by rfl, fun w => by go_simp; intro h; omega⟩) ?_
              simp only [Act.put, List.setIfInBounds_toArray, List.set_cons_succ, List.set_cons_zero]
              refine wpAny_ready (rs := [7, 8]) (by kernel_rfl) (by simp) ?_
              refine AllReady.cons rfl (fun K hK => ?_) ?_
              · go_simp
                refine hK _ _ ?_
                clear hK K
                refine wpAny_ready (rs := [8]) (by kernel_rfl) (by simp) ?_
                refine AllReady.cons rfl (fun K hK => ?_) AllReady.nil
                go_simp
                refine hK _ _ ?_
                clear hK K
                refine wpAny_done (by kernel_rfl) ?_ _
                exact HEND _ g2 cap _ _ _ _ _ _ _ _ HE.1 HE.2.1 HE.2.2.1 HE.2.2.2
              refine AllReady.cons rfl (fun K hK => ?_) AllReady.nil
              go_simp
              refine hK _ _ ?_
              clear hK K
              refine wpAny_ready (rs := [7]) (by kernel_rfl) (by simp) ?_
              refine AllReady.cons rfl (fun K hK => ?_) AllReady.nil
              go_simp
              refine hK _ _ ?_
              clear hK K
              refine wpAny_done (by kernel_rfl) ?_ _
              rw [set5_comm _ _ _ _ _ _ _ _ _ _ hgl, put5]
              exact HEND _ g2 cap _ _ _ _ _ _ _ _ HE.1 HE.2.1 HE.2.2.1 HE.2.2.2
            exact AllReady.nil
          exact AllReady.nil
        exact AllReady.nil
      refine AllReady.cons rfl (fun K hK => ?_) ?_
      · go_simp
        refine hK _ _ ?_
        clear hK K
        have hZ := S.new (.cells #[.int .i64 0, .int .i64 0, .string ⟨#[]⟩, .slice none 0 0, .slice none 0 0] 31)
        have S := S.then_ (below1 _ (.cells #[.int .i64 0, .int .i64 0, .string ⟨#[]⟩, .slice none 0 0, .slice none 0 0] 31))
        have cx := row_cells S.hx
        dsimp only [T.cells] at cx
        have cl := row_cells S.hL
        refine wpAny_ready (rs := [1]) (by kernel_rfl) (by simp) ?_
        refine AllReady.cons rfl (fun K hK => ?_) ?_
        · go_simp
          refine hK _ _ ?_
          clear hK K
          refine wpAny_ready (rs := [2]) (by kernel_rfl) (by simp) ?_
          refine AllReady.cons rfl (fun K hK => ?_) ?_
          · refine step_enter rfl 32 #[.agg #[.int .i64 ky, .int .i64 ny, .string sy, .slice lay ly.length lcy, .slice day dy.length dcy]] (by go_simp) ((clone_any (.mk ky ny sy lay lcy ly day dcy dy) ox _ S.hin).mono ?_)
            rintro e w2 ⟨⟨k', n', s', la', lc', l', da', dc', d'⟩, rfl, hv', ho, b2⟩
            refine ⟨_, rfl, ?_⟩
            dsimp only [T.arg, T.cells]
            refine hK _ _ ?_
            clear hK K
            try simp only [Act.put, List.setIfInBounds_toArray, List.set_cons_succ, List.set_cons_zero]
            have ho := ho.keep (B' := W.heap.size) (Only.refl [] _) (by simp) S.hB.size
            have hZ := row_then hZ b2
            have S := S.then_ b2
            have cx := row_cells S.hx
            dsimp only [T.cells] at cx
            have cl := row_cells S.hL
            refine wpAny_ready (rs := [5]) (by kernel_rfl) (by simp) ?_
            refine AllReady.cons rfl (fun K hK => ?_) ?_
            · refine step_append_lies _ rfl (.tmp 11) (.tmp 15) 28 rfl (w.heap.size + 2) 31 i0 _ 5 80 Tryd.underlying28 I0.out.1 I0.out.2.1 I0.out.2.2.1 I0.out.2.2.2 rfl (by decide) (.slice ra ts.length rc) ts.length _ (by simp [Act.eval]) (row_keep (own_rowL HW.out) S.hB) _ 1 1 [.int .i64 0, .int .i64 0, .string ⟨#[]⟩, .slice none 0 0, .slice none 0 0] rfl rfl (row_at hZ) (by simp [Value.oneCell']) (by decide) (by unfold maxLen; omega) (by omega) (by have := S.hB.size; omega) _ rfl ?_
              intro g2 cap w3 hown3 hgrow3 hg3 hlt3
              try go_simp
              refine hK _ _ ?_
              clear hK K cx cl
              obtain ⟨v0, v1, v2, v3, v4, c0, c1, c2, c3, c4, f0, f1, f2, f3, f4⟩ := own_room5 hown3 (i := ts.length) (room_of hown3)
              have HE := reach_step (B0 := W0.heap.size) (x := ⟨.mk ky ny sy lay lcy ly day dcy dy, ox, ix⟩) hRR.out S.hL HW.out HV.out htl S.hB ho hv' rfl hown3 hgrow3 hg3
              have hL3 := reach_box hRR.out HW.out S.hL S.hB hgrow3
              have hgl := reach_ne hRR.out HW.out S.hB hg3
              have cl3 := row_cells hL3
              have fl3 := row_free hL3
              clear hown3 hgrow3 hg3 hZ ho
              simp only [T.cells, put5] at HE
              refine wpAny_take (i := 6) (v := .pointer (some ⟨g2, ts.length * 5, none⟩)) rfl (by kernel_rfl) (by kernel_rfl) (by kernel_rfl) (fun _ _ _ h => h) (Or.inl ⟨by rfl, fun w => by go_simp; intro h; omega⟩) ?_
              simp only [Act.put, List.setIfInBounds_toArray, List.set_cons_succ, List.set_cons_zero]
              refine wpAny_ready (rs := [7, 8]) (by kernel_rfl) (by simp) ?_
              refine AllReady.cons rfl (fun K hK => ?_) ?_
              · go_simp
                refine hK _ _ ?_
                clear hK K
                refine wpAny_ready (rs := [8]) (by kernel_rfl) (by simp) ?_
                refine AllReady.cons rfl (fun K hK => ?_) AllReady.nil
                go_simp
                refine hK _ _ ?_
                clear hK K
                refine wpAny_done (by kernel_rfl) ?_ _
                exact HEND _ g2 cap _ _ _ _ _ _ _ _ HE.1 HE.2.1 HE.2.2.1 HE.2.2.2
              refine AllReady.cons rfl (fun K hK => ?_) AllReady.nil
              go_simp
              refine hK _ _ ?_
              clear hK K
              refine wpAny_ready (rs := [7]) (by kernel_rfl) (by simp) ?_
              refine AllReady.cons rfl (fun K hK => ?_) AllReady.nil
              go_simp
              refine hK _ _ ?_
              clear hK K
              refine wpAny_done (by kernel_rfl) ?_ _
              rw [set5_comm _ _ _ _ _ _ _ _ _ _ hgl, put5]
              exact HEND _ g2 cap _ _ _ _ _ _ _ _ HE.1 HE.2.1 HE.2.2.1 HE.2.2.2
            exact AllReady.nil
          exact AllReady.nil
        exact AllReady.nil
      exact AllReady.nil
    refine AllReady.cons rfl (fun K hK => ?_) ?_
    · go_simp
      refine hK _ _ ?_
      clear hK K
      refine wpAny_ready (rs := [0, 2, 4]) (by kernel_rfl) (by simp) ?_
      refine AllReady.cons rfl (fun K hK => ?_) ?_
      · go_simp
        refine hK _ _ ?_
        clear hK K
        refine wpAny_take (i := 3) (v := .int .i64 ts.length) rfl (by kernel_rfl) (by kernel_rfl) (by kernel_rfl) (fun _ _ _ h => h) (Or.inl ⟨by rfl, fun w => by go_simp⟩) ?_
        simp only [Act.put, List.setIfInBounds_toArray, List.set_cons_succ, List.set_cons_zero]
        refine wpAny_ready (rs := [2, 4]) (by kernel_rfl) (by simp) ?_
        refine AllReady.cons rfl (fun K hK => ?_) ?_
        · refine step_enter rfl 32 #[.agg #[.int .i64 ky, .int .i64 ny, .string sy, .slice lay ly.length lcy, .slice day dy.length dcy]] (by go_simp) ((clone_any (.mk ky ny sy lay lcy ly day dcy dy) ox _ S.hin).mono ?_)
          rintro e w2 ⟨⟨k', n', s', la', lc', l', da', dc', d'⟩, rfl, hv', ho, b2⟩
          refine ⟨_, rfl, ?_⟩
          dsimp only [T.arg, T.cells]
          refine hK _ _ ?_
          clear hK K
          try simp only [Act.put, List.setIfInBounds_toArray, List.set_cons_succ, List.set_cons_zero]
          have ho := ho.keep (B' := W.heap.size) (Only.refl [] _) (by simp) S.hB.size
          have S := S.then_ b2
          have cx := row_cells S.hx
          dsimp only [T.cells] at cx
          have cl := row_cells S.hL
          refine wpAny_ready (rs := [4]) (by kernel_rfl) (by simp) ?_
          refine AllReady.cons rfl (fun K hK => ?_) ?_
          · go_simp
            refine hK _ _ ?_
            clear hK K
            have hZ := S.new (.cells #[.int .i64 0, .int .i64 0, .string ⟨#[]⟩, .slice none 0 0, .slice none 0 0] 31)
            have ho := ho.keep (Only.of_below (S := []) (below1 _ (.cells #[.int .i64 0, .int .i64 0, .string ⟨#[]⟩, .slice none 0 0, .slice none 0 0] 31))) (by simp) (Nat.le_refl _)
            have S := S.then_ (below1 _ (.cells #[.int .i64 0, .int .i64 0, .string ⟨#[]⟩, .slice none 0 0, .slice none 0 0] 31))
            have cx := row_cells S.hx
            dsimp only [T.cells] at cx
            have cl := row_cells S.hL
            refine wpAny_ready (rs := [5]) (by kernel_rfl) (by simp) ?_
            refine AllReady.cons rfl (fun K hK => ?_) ?_
            · refine step_append_lies _ rfl (.tmp 11) (.tmp 15) 28 rfl (w.heap.size + 2) 31 i0 _ 5 80 Tryd.underlying28 I0.out.1 I0.out.2.1 I0.out.2.2.1 I0.out.2.2.2 rfl (by decide) (.slice ra ts.length rc) ts.length _ (by simp [Act.eval]) (row_keep (own_rowL HW.out) S.hB) _ 1 1 [.int .i64 0, .int .i64 0, .string ⟨#[]⟩, .slice none 0 0, .slice none 0 0] rfl rfl (row_at hZ) (by simp [Value.oneCell']) (by decide) (by unfold maxLen; omega) (by omega) (by have := S.hB.size; omega) _ rfl ?_
              intro g2 cap w3 hown3 hgrow3 hg3 hlt3
              try go_simp
              refine hK _ _ ?_
              clear hK K cx cl
              obtain ⟨v0, v1, v2, v3, v4, c0, c1, c2, c3, c4, f0, f1, f2, f3, f4⟩ := own_room5 hown3 (i := ts.length) (room_of hown3)
              have HE := reach_step (B0 := W0.heap.size) (x := ⟨.mk ky ny sy lay lcy ly day dcy dy, ox, ix⟩) hRR.out S.hL HW.out HV.out htl S.hB ho hv' rfl hown3 hgrow3 hg3
              have hL3 := reach_box hRR.out HW.out S.hL S.hB hgrow3
              have hgl := reach_ne hRR.out HW.out S.hB hg3
              have cl3 := row_cells hL3
              have fl3 := row_free hL3
              clear hown3 hgrow3 hg3 hZ ho
              simp only [T.cells, put5] at HE
              refine wpAny_take (i := 6) (v := .pointer (some ⟨g2, ts.length * 5, none⟩)) rfl (by kernel_rfl) (by kernel_rfl) (by kernel_rfl) (fun _ _ _ h => h) (Or.inl ⟨by rfl, fun w => by go_simp; intro h; omega⟩) ?_
              simp only [Act.put, List.setIfInBounds_toArray, List.set_cons_succ, List.set_cons_zero]
              refine wpAny_ready (rs := [7, 8]) (by kernel_rfl) (by simp) ?_
              refine AllReady.cons rfl (fun K hK => ?_) ?_
              · go_simp
                refine hK _ _ ?_
                clear hK K
                refine wpAny_ready (rs := [8]) (by kernel_rfl) (by simp) ?_
                refine AllReady.cons rfl (fun K hK => ?_) AllReady.nil
                go_simp
                refine hK _ _ ?_
                clear hK K
                refine wpAny_done (by kernel_rfl) ?_ _
                exact HEND _ g2 cap _ _ _ _ _ _ _ _ HE.1 HE.2.1 HE.2.2.1 HE.2.2.2
              refine AllReady.cons rfl (fun K hK => ?_) AllReady.nil
              go_simp
              refine hK _ _ ?_
              clear hK K
              refine wpAny_ready (rs := [7]) (by kernel_rfl) (by simp) ?_
              refine AllReady.cons rfl (fun K hK => ?_) AllReady.nil
              go_simp
              refine hK _ _ ?_
              clear hK K
              refine wpAny_done (by kernel_rfl) ?_ _
              rw [set5_comm _ _ _ _ _ _ _ _ _ _ hgl, put5]
              exact HEND _ g2 cap _ _ _ _ _ _ _ _ HE.1 HE.2.1 HE.2.2.1 HE.2.2.2
            exact AllReady.nil
          exact AllReady.nil
        refine AllReady.cons rfl (fun K hK => ?_) ?_
        · go_simp
          refine hK _ _ ?_
          clear hK K
          have hZ := S.new (.cells #[.int .i64 0, .int .i64 0, .string ⟨#[]⟩, .slice none 0 0, .slice none 0 0] 31)
          have S := S.then_ (below1 _ (.cells #[.int .i64 0, .int .i64 0, .string ⟨#[]⟩, .slice none 0 0, .slice none 0 0] 31))
          have cx := row_cells S.hx
          dsimp only [T.cells] at cx
          have cl := row_cells S.hL
          refine wpAny_ready (rs := [2]) (by kernel_rfl) (by simp) ?_
          refine AllReady.cons rfl (fun K hK => ?_) ?_
          · refine step_enter rfl 32 #[.agg #[.int .i64 ky, .int .i64 ny, .string sy, .slice lay ly.length lcy, .slice day dy.length dcy]] (by go_simp) ((clone_any (.mk ky ny sy lay lcy ly day dcy dy) ox _ S.hin).mono ?_)
            rintro e w2 ⟨⟨k', n', s', la', lc', l', da', dc', d'⟩, rfl, hv', ho, b2⟩
            refine ⟨_, rfl, ?_⟩
            dsimp only [T.arg, T.cells]
            refine hK _ _ ?_
            clear hK K
            try simp only [Act.put, List.setIfInBounds_toArray, List.set_cons_succ, List.set_cons_zero]
            have ho := ho.keep (B' := W.heap.size) (Only.refl [] _) (by simp) S.hB.size
            have hZ := row_then hZ b2
            have S := S.then_ b2
            have cx := row_cells S.hx
            dsimp only [T.cells] at cx
            have cl := row_cells S.hL
            refine wpAny_ready (rs := [5]) (by kernel_rfl) (by simp) ?_
            refine AllReady.cons rfl (fun K hK => ?_) ?_
            · refine step_append_lies _ rfl (.tmp 11) (.tmp 15) 28 rfl (w.heap.size + 2) 31 i0 _ 5 80 Tryd.underlying28 I0.out.1 I0.out.2.1 I0.out.2.2.1 I0.out.2.2.2 rfl (by decide) (.slice ra ts.length rc) ts.length _ (by simp [Act.eval]) (row_keep (own_rowL HW.out) S.hB) _ 1 1 [.int .i64 0, .int .i64 0, .string ⟨#[]⟩, .slice none 0 0, .slice none 0 0] rfl rfl (row_at hZ) (by simp [Value.oneCell']) (by decide) (by unfold maxLen; omega) (by omega) (by have := S.hB.size; omega) _ rfl ?_
              intro g2 cap w3 hown3 hgrow3 hg3 hlt3
              try go_simp
              refine hK _ _ ?_
              clear hK K cx cl
              obtain ⟨v0, v1, v2, v3, v4, c0, c1, c2, c3, c4, f0, f1, f2, f3, f4⟩ := own_room5 hown3 (i := ts.length) (room_of hown3)
              have HE := reach_step (B0 := W0.heap.size) (x := ⟨.mk ky ny sy lay lcy ly day dcy dy, ox, ix⟩) hRR.out S.hL HW.out HV.out htl S.hB ho hv' rfl hown3 hgrow3 hg3
              have hL3 := reach_box hRR.out HW.out S.hL S.hB hgrow3
              have hgl := reach_ne hRR.out HW.out S.hB hg3
              have cl3 := row_cells hL3
              have fl3 := row_free hL3
              clear hown3 hgrow3 hg3 hZ ho
              simp only [T.cells, put5] at HE
              refine wpAny_take (i := 6) (v := .pointer (some ⟨g2, ts.length * 5, none⟩)) rfl (by kernel_rfl) (by kernel_rfl) (by kernel_rfl) (fun _ _ _ h => h) (Or.inl ⟨by rfl, fun w => by go_simp; intro h; omega⟩) ?_
              simp only [Act.put, List.setIfInBounds_toArray, List.set_cons_succ, List.set_cons_zero]
              refine wpAny_ready (rs := [7, 8]) (by kernel_rfl) (by simp) ?_
              refine AllReady.cons rfl (fun K hK => ?_) ?_
              · go_simp
                refine hK _ _ ?_
                clear hK K
                refine wpAny_ready (rs := [8]) (by kernel_rfl) (by simp) ?_
                refine AllReady.cons rfl (fun K hK => ?_) AllReady.nil
                go_simp
                refine hK _ _ ?_
                clear hK K
                refine wpAny_done (by kernel_rfl) ?_ _
                exact HEND _ g2 cap _ _ _ _ _ _ _ _ HE.1 HE.2.1 HE.2.2.1 HE.2.2.2
              refine AllReady.cons rfl (fun K hK => ?_) AllReady.nil
              go_simp
              refine hK _ _ ?_
              clear hK K
              refine wpAny_ready (rs := [7]) (by kernel_rfl) (by simp) ?_
              refine AllReady.cons rfl (fun K hK => ?_) AllReady.nil
              go_simp
              refine hK _ _ ?_
              clear hK K
              refine wpAny_done (by kernel_rfl) ?_ _
              rw [set5_comm _ _ _ _ _ _ _ _ _ _ hgl, put5]
              exact HEND _ g2 cap _ _ _ _ _ _ _ _ HE.1 HE.2.1 HE.2.2.1 HE.2.2.2
            exact AllReady.nil
          exact AllReady.nil
        exact AllReady.nil
      refine AllReady.cons rfl (fun K hK => ?_) ?_
      · refine step_enter rfl 32 #[.agg #[.int .i64 ky, .int .i64 ny, .string sy, .slice lay ly.length lcy, .slice day dy.length dcy]] (by go_simp) ((clone_any (.mk ky ny sy lay lcy ly day dcy dy) ox _ S.hin).mono ?_)
        rintro e w2 ⟨⟨k', n', s', la', lc', l', da', dc', d'⟩, rfl, hv', ho, b2⟩
        refine ⟨_, rfl, ?_⟩
        dsimp only [T.arg, T.cells]
        refine hK _ _ ?_
        clear hK K
        try simp only [Act.put, List.setIfInBounds_toArray, List.set_cons_succ, List.set_cons_zero]
        have ho := ho.keep (B' := W.heap.size) (Only.refl [] _) (by simp) S.hB.size
        have S := S.then_ b2
        have cx := row_cells S.hx
        dsimp only [T.cells] at cx
        have cl := row_cells S.hL
        refine wpAny_ready (rs := [0, 4]) (by kernel_rfl) (by simp) ?_
        refine AllReady.cons rfl (fun K hK => ?_) ?_
        · go_simp
          refine hK _ _ ?_
          clear hK K
          refine wpAny_take (i := 3) (v := .int .i64 ts.length) rfl (by kernel_rfl) (by kernel_rfl) (by kernel_rfl) (fun _ _ _ h => h) (Or.inl ⟨by rfl, fun w => by go_simp⟩) ?_
          simp only [Act.put, List.setIfInBounds_toArray, List.set_cons_succ, List.set_cons_zero]
          refine wpAny_ready (rs := [4]) (by kernel_rfl) (by simp) ?_
          refine AllReady.cons rfl (fun K hK => ?_) ?_
          · go_simp
            refine hK _ _ ?_
            clear hK K
            have hZ := S.new (.cells #[.int .i64 0, .int .i64 0, .string ⟨#[]⟩, .slice none 0 0, .slice none 0 0] 31)
            have ho := ho.keep (Only.of_below (S := []) (below1 _ (.cells #[.int .i64 0, .int .i64 0, .string ⟨#[]⟩, .slice none 0 0, .slice none 0 0] 31))) (by simp) (Nat.le_refl _)
            have S := S.then_ (below1 _ (.cells #[.int .i64 0, .int .i64 0, .string ⟨#[]⟩, .slice none 0 0, .slice none 0 0] 31))
            have cx := row_cells S.hx
            dsimp only [T.cells] at cx
            have cl := row_cells S.hL
            refine wpAny_ready (rs := [5]) (by kernel_rfl) (by simp) ?_
            refine AllReady.cons rfl (fun K hK => ?_) ?_
            · refine step_append_lies _ rfl (.tmp 11) (.tmp 15) 28 rfl (w.heap.size + 2) 31 i0 _ 5 80 Tryd.underlying28 I0.out.1 I0.out.2.1 I0.out.2.2.1 I0.out.2.2.2 rfl (by decide) (.slice ra ts.length rc) ts.length _ (by simp [Act.eval]) (row_keep (own_rowL HW.out) S.hB) _ 1 1 [.int .i64 0, .int .i64 0, .string ⟨#[]⟩, .slice none 0 0, .slice none 0 0] rfl rfl (row_at hZ) (by simp [Value.oneCell']) (by decide) (by unfold maxLen; omega) (by omega) (by have := S.hB.size; omega) _ rfl ?_
              intro g2 cap w3 hown3 hgrow3 hg3 hlt3
              try go_simp
              refine hK _ _ ?_
              clear hK K cx cl
              obtain ⟨v0, v1, v2, v3, v4, c0, c1, c2, c3, c4, f0, f1, f2, f3, f4⟩ := own_room5 hown3 (i := ts.length) (room_of hown3)
              have HE := reach_step (B0 := W0.heap.size) (x := ⟨.mk ky ny sy lay lcy ly day dcy dy, ox, ix⟩) hRR.out S.hL HW.out HV.out htl S.hB ho hv' rfl hown3 hgrow3 hg3
              have hL3 := reach_box hRR.out HW.out S.hL S.hB hgrow3
              have hgl := reach_ne hRR.out HW.out S.hB hg3
              have cl3 := row_cells hL3
              have fl3 := row_free hL3
              clear hown3 hgrow3 hg3 hZ ho
              simp only [T.cells, put5] at HE
              refine wpAny_take (i := 6) (v := .pointer (some ⟨g2, ts.length * 5, none⟩)) rfl (by kernel_rfl) (by kernel_rfl) (by kernel_rfl) (fun _ _ _ h => h) (Or.inl ⟨by rfl, fun w => by go_simp; intro h; omega⟩) ?_
              simp only [Act.put, List.setIfInBounds_toArray, List.set_cons_succ, List.set_cons_zero]
              refine wpAny_ready (rs := [7, 8]) (by kernel_rfl) (by simp) ?_
              refine AllReady.cons rfl (fun K hK => ?_) ?_
              · go_simp
                refine hK _ _ ?_
                clear hK K
                refine wpAny_ready (rs := [8]) (by kernel_rfl) (by simp) ?_
                refine AllReady.cons rfl (fun K hK => ?_) AllReady.nil
                go_simp
                refine hK _ _ ?_
                clear hK K
                refine wpAny_done (by kernel_rfl) ?_ _
                exact HEND _ g2 cap _ _ _ _ _ _ _ _ HE.1 HE.2.1 HE.2.2.1 HE.2.2.2
              refine AllReady.cons rfl (fun K hK => ?_) AllReady.nil
              go_simp
              refine hK _ _ ?_
              clear hK K
              refine wpAny_ready (rs := [7]) (by kernel_rfl) (by simp) ?_
              refine AllReady.cons rfl (fun K hK => ?_) AllReady.nil
              go_simp
              refine hK _ _ ?_
              clear hK K
              refine wpAny_done (by kernel_rfl) ?_ _
              rw [set5_comm _ _ _ _ _ _ _ _ _ _ hgl, put5]
              exact HEND _ g2 cap _ _ _ _ _ _ _ _ HE.1 HE.2.1 HE.2.2.1 HE.2.2.2
            exact AllReady.nil
          exact AllReady.nil
        refine AllReady.cons rfl (fun K hK => ?_) ?_
        · go_simp
          refine hK _ _ ?_
          clear hK K
          have hZ := S.new (.cells #[.int .i64 0, .int .i64 0, .string ⟨#[]⟩, .slice none 0 0, .slice none 0 0] 31)
          have ho := ho.keep (Only.of_below (S := []) (below1 _ (.cells #[.int .i64 0, .int .i64 0, .string ⟨#[]⟩, .slice none 0 0, .slice none 0 0] 31))) (by simp) (Nat.le_refl _)
          have S := S.then_ (below1 _ (.cells #[.int .i64 0, .int .i64 0, .string ⟨#[]⟩, .slice none 0 0, .slice none 0 0] 31))
          have cx := row_cells S.hx
          dsimp only [T.cells] at cx
          have cl := row_cells S.hL
          refine wpAny_ready (rs := [0]) (by kernel_rfl) (by simp) ?_
          refine AllReady.cons rfl (fun K hK => ?_) ?_
          · go_simp
            refine hK _ _ ?_
            clear hK K
            refine wpAny_take (i := 3) (v := .int .i64 ts.length) rfl (by kernel_rfl) (by kernel_rfl) (by kernel_rfl) (fun _ _ _ h => h) (Or.inl ⟨by rfl, fun w => by go_simp⟩) ?_
            simp only [Act.put, List.setIfInBounds_toArray, List.set_cons_succ, List.set_cons_zero]
            refine wpAny_ready (rs := [5]) (by kernel_rfl) (by simp) ?_
            refine AllReady.cons rfl (fun K hK => ?_) ?_
            · refine step_append_lies _ rfl (.tmp 11) (.tmp 15) 28 rfl (w.heap.size + 2) 31 i0 _ 5 80 Tryd.underlying28 I0.out.1 I0.out.2.1 I0.out.2.2.1 I0.out.2.2.2 rfl (by decide) (.slice ra ts.length rc) ts.length _ (by simp [Act.eval]) (row_keep (own_rowL HW.out) S.hB) _ 1 1 [.int .i64 0, .int .i64 0, .string ⟨#[]⟩, .slice none 0 0, .slice none 0 0] rfl rfl (row_at hZ) (by simp [Value.oneCell']) (by decide) (by unfold maxLen; omega) (by omega) (by have := S.hB.size; omega) _ rfl ?_
              intro g2 cap w3 hown3 hgrow3 hg3 hlt3
              try go_simp
              refine hK _ _ ?_
              clear hK K cx cl
              obtain ⟨v0, v1, v2, v3, v4, c0, c1, c2, c3, c4, f0, f1, f2, f3, f4⟩ := own_room5 hown3 (i := ts.length) (room_of hown3)
              have HE := reach_step (B0 := W0.heap.size) (x := ⟨.mk ky ny sy lay lcy ly day dcy dy, ox, ix⟩) hRR.out S.hL HW.out HV.out htl S.hB ho hv' rfl hown3 hgrow3 hg3
              have hL3 := reach_box hRR.out HW.out S.hL S.hB hgrow3
              have hgl := reach_ne hRR.out HW.out S.hB hg3
              have cl3 := row_cells hL3
              have fl3 := row_free hL3
              clear hown3 hgrow3 hg3 hZ ho
              simp only [T.cells, put5] at HE
              refine wpAny_take (i := 6) (v := .pointer (some ⟨g2, ts.length * 5, none⟩)) rfl (by kernel_rfl) (by kernel_rfl) (by kernel_rfl) (fun _ _ _ h => h) (Or.inl ⟨by rfl, fun w => by go_simp; intro h; omega⟩) ?_
              simp only [Act.put, List.setIfInBounds_toArray, List.set_cons_succ, List.set_cons_zero]
              refine wpAny_ready (rs := [7, 8]) (by kernel_rfl) (by simp) ?_
              refine AllReady.cons rfl (fun K hK => ?_) ?_
              · go_simp
                refine hK _ _ ?_
                clear hK K
                refine wpAny_ready (rs := [8]) (by kernel_rfl) (by simp) ?_
                refine AllReady.cons rfl (fun K hK => ?_) AllReady.nil
                go_simp
                refine hK _ _ ?_
                clear hK K
                refine wpAny_done (by kernel_rfl) ?_ _
                exact HEND _ g2 cap _ _ _ _ _ _ _ _ HE.1 HE.2.1 HE.2.2.1 HE.2.2.2
              refine AllReady.cons rfl (fun K hK => ?_) AllReady.nil
              go_simp
              refine hK _ _ ?_
              clear hK K
              refine wpAny_ready (rs := [7]) (by kernel_rfl) (by simp) ?_
              refine AllReady.cons rfl (fun K hK => ?_) AllReady.nil
              go_simp
              refine hK _ _ ?_
              clear hK K
              refine wpAny_done (by kernel_rfl) ?_ _
              rw [set5_comm _ _ _ _ _ _ _ _ _ _ hgl, put5]
              exact HEND _ g2 cap _ _ _ _ _ _ _ _ HE.1 HE.2.1 HE.2.2.1 HE.2.2.2
            exact AllReady.nil
          exact AllReady.nil
        exact AllReady.nil
      refine AllReady.cons rfl (fun K hK => ?_) ?_
      · go_simp
        refine hK _ _ ?_
        clear hK K
        have hZ := S.new (.cells #[.int .i64 0, .int .i64 0, .string ⟨#[]⟩, .slice none 0 0, .slice none 0 0] 31)
        have S := S.then_ (below1 _ (.cells #[.int .i64 0, .int .i64 0, .string ⟨#[]⟩, .slice none 0 0, .slice none 0 0] 31))
        have cx := row_cells S.hx
        dsimp only [T.cells] at cx
        have cl := row_cells S.hL
        refine wpAny_ready (rs := [0, 2]) (by kernel_rfl) (by simp) ?_
        refine AllReady.cons rfl (fun K hK => ?_) ?_
        · go_simp
          refine hK _ _ ?_
          clear hK K
          refine wpAny_take (i := 3) (v := .int .i64 ts.length) rfl (by kernel_rfl) (by kernel_rfl) (by kernel_rfl) (fun _ _ _ h => h) (Or.inl ⟨by rfl, fun w => by go_simp⟩) ?_
          simp only [Act.put, List.setIfInBounds_toArray, List.set_cons_succ, List.set_cons_zero]
          refine wpAny_ready (rs := [2]) (by kernel_rfl) (by simp) ?_
          refine AllReady.cons rfl (fun K hK => ?_) ?_
          · refine step_enter rfl 32 #[.agg #[.int .i64 ky, .int .i64 ny, .string sy, .slice lay ly.length lcy, .slice day dy.length dcy]] (by go_simp) ((clone_any (.mk ky ny sy lay lcy ly day dcy dy) ox _ S.hin).mono ?_)
            rintro e w2 ⟨⟨k', n', s', la', lc', l', da', dc', d'⟩, rfl, hv', ho, b2⟩
            refine ⟨_, rfl, ?_⟩
            dsimp only [T.arg, T.cells]
            refine hK _ _ ?_
            clear hK K
            try simp only [Act.put, List.setIfInBounds_toArray, List.set_cons_succ, List.set_cons_zero]
            have ho := ho.keep (B' := W.heap.size) (Only.refl [] _) (by simp) S.hB.size
            have hZ := row_then hZ b2
            have S := S.then_ b2
            have cx := row_cells S.hx
            dsimp only [T.cells] at cx
            have cl := row_cells S.hL
            refine wpAny_ready (rs := [5]) (by kernel_rfl) (by simp) ?_
            refine AllReady.cons rfl (fun K hK => ?_) ?_
            · refine step_append_lies _ rfl (.tmp 11) (.tmp 15) 28 rfl (w.heap.size + 2) 31 i0 _ 5 80 Tryd.underlying28 I0.out.1 I0.out.2.1 I0.out.2.2.1 I0.out.2.2.2 rfl (by decide) (.slice ra ts.length rc) ts.length _ (by simp [Act.eval]) (row_keep (own_rowL HW.out) S.hB) _ 1 1 [.int .i64 0, .int .i64 0, .string ⟨#[]⟩, .slice none 0 0, .slice none 0 0] rfl rfl (row_at hZ) (by simp [Value.oneCell']) (by decide) (by unfold maxLen; omega) (by omega) (by have := S.hB.size; omega) _ rfl ?_
              intro g2 cap w3 hown3 hgrow3 hg3 hlt3
              try go_simp
              refine hK _ _ ?_
              clear hK K cx cl
              obtain ⟨v0, v1, v2, v3, v4, c0, c1, c2, c3, c4, f0, f1, f2, f3, f4⟩ := own_room5 hown3 (i := ts.length) (room_of hown3)
              have HE := reach_step (B0 := W0.heap.size) (x := ⟨.mk ky ny sy lay lcy ly day dcy dy, ox, ix⟩) hRR.out S.hL HW.out HV.out htl S.hB ho hv' rfl hown3 hgrow3 hg3
              have hL3 := reach_box hRR.out HW.out S.hL S.hB hgrow3
              have hgl := reach_ne hRR.out HW.out S.hB hg3
              have cl3 := row_cells hL3
              have fl3 := row_free hL3
              clear hown3 hgrow3 hg3 hZ ho
              simp only [T.cells, put5] at HE
              refine wpAny_take (i := 6) (v := .pointer (some ⟨g2, ts.length * 5, none⟩)) rfl (by kernel_rfl) (by kernel_rfl) (by kernel_rfl) (fun _ _ _ h => h) (Or.inl ⟨by rfl, fun w => by go_simp; intro h; omega⟩) ?_
              simp only [Act.put, List.setIfInBounds_toArray, List.set_cons_succ, List.set_cons_zero]
              refine wpAny_ready (rs := [7, 8]) (by kernel_rfl) (by simp) ?_
              refine AllReady.cons rfl (fun K hK => ?_) ?_
              · go_simp
                refine hK _ _ ?_
                clear hK K
                refine wpAny_ready (rs := [8]) (by kernel_rfl) (by simp) ?_
                refine AllReady.cons rfl (fun K hK => ?_) AllReady.nil
                go_simp
                refine hK _ _ ?_
                clear hK K
                refine wpAny_done (by kernel_rfl) ?_ _
                exact HEND _ g2 cap _ _ _ _ _ _ _ _ HE.1 HE.2.1 HE.2.2.1 HE.2.2.2
              refine AllReady.cons rfl (fun K hK => ?_) AllReady.nil
              go_simp
              refine hK _ _ ?_
              clear hK K
              refine wpAny_ready (rs := [7]) (by kernel_rfl) (by simp) ?_
              refine AllReady.cons rfl (fun K hK => ?_) AllReady.nil
              go_simp
              refine hK _ _ ?_
              clear hK K
              refine wpAny_done (by kernel_rfl) ?_ _
              rw [set5_comm _ _ _ _ _ _ _ _ _ _ hgl, put5]
              exact HEND _ g2 cap _ _ _ _ _ _ _ _ HE.1 HE.2.1 HE.2.2.1 HE.2.2.2
            exact AllReady.nil
          exact AllReady.nil
        refine AllReady.cons rfl (fun K hK => ?_) ?_
        · refine step_enter rfl 32 #[.agg #[.int .i64 ky, .int .i64 ny, .string sy, .slice lay ly.length lcy, .slice day dy.length dcy]] (by go_simp) ((clone_any (.mk ky ny sy lay lcy ly day dcy dy) ox _ S.hin).mono ?_)
          rintro e w2 ⟨⟨k', n', s', la', lc', l', da', dc', d'⟩, rfl, hv', ho, b2⟩
          refine ⟨_, rfl, ?_⟩
          dsimp only [T.arg, T.cells]
          refine hK _ _ ?_
          clear hK K
          try simp only [Act.put, List.setIfInBounds_toArray, List.set_cons_succ, List.set_cons_zero]
          have ho := ho.keep (B' := W.heap.size) (Only.refl [] _) (by simp) S.hB.size
          have hZ := row_then hZ b2
          have S := S.then_ b2
          have cx := row_cells S.hx
          dsimp only [T.cells] at cx
          have cl := row_cells S.hL
          refine wpAny_ready (rs := [0]) (by kernel_rfl) (by simp) ?_
          refine AllReady.cons rfl (fun K hK => ?_) ?_
          · go_simp
            refine hK _ _ ?_
            clear hK K
            refine wpAny_take (i := 3) (v := .int .i64 ts.length) rfl (by kernel_rfl) (by kernel_rfl) (by kernel_rfl) (fun _ _ _ h => h) (Or.inl ⟨by rfl, fun w => by go_simp⟩) ?_
            simp only [Act.put, List.setIfInBounds_toArray, List.set_cons_succ, List.set_cons_zero]
            refine wpAny_ready (rs := [5]) (by kernel_rfl) (by simp) ?_
            refine AllReady.cons rfl (fun K hK => ?_) ?_
            · refine step_append_lies _ rfl (.tmp 11) (.tmp 15) 28 rfl (w.heap.size + 2) 31 i0 _ 5 80 Tryd.underlying28 I0.out.1 I0.out.2.1 I0.out.2.2.1 I0.out.2.2.2 rfl (by decide) (.slice ra ts.length rc) ts.length _ (by simp [Act.eval]) (row_keep (own_rowL HW.out) S.hB) _ 1 1 [.int .i64 0, .int .i64 0, .string ⟨#[]⟩, .slice none 0 0, .slice none 0 0] rfl rfl (row_at hZ) (by simp [Value.oneCell']) (by decide) (by unfold maxLen; omega) (by omega) (by have := S.hB.size; omega) _ rfl ?_
              intro g2 cap w3 hown3 hgrow3 hg3 hlt3
              try go_simp
              refine hK _ _ ?_
              clear hK K cx cl
              obtain ⟨v0, v1, v2, v3, v4, c0, c1, c2, c3, c4, f0, f1, f2, f3, f4⟩ := own_room5 hown3 (i := ts.length) (room_of hown3)
              have HE := reach_step (B0 := W0.heap.size) (x := ⟨.mk ky ny sy lay lcy ly day dcy dy, ox, ix⟩) hRR.out S.hL HW.out HV.out htl S.hB ho hv' rfl hown3 hgrow3 hg3
              have hL3 := reach_box hRR.out HW.out S.hL S.hB hgrow3
              have hgl := reach_ne hRR.out HW.out S.hB hg3
              have cl3 := row_cells hL3
              have fl3 := row_free hL3
              clear hown3 hgrow3 hg3 hZ ho
              simp only [T.cells, put5] at HE
              refine wpAny_take (i := 6) (v := .pointer (some ⟨g2, ts.length * 5, none⟩)) rfl (by kernel_rfl) (by kernel_rfl) (by kernel_rfl) (fun _ _ _ h => h) (Or.inl ⟨by rfl, fun w => by go_simp; intro h; omega⟩) ?_
              simp only [Act.put, List.setIfInBounds_toArray, List.set_cons_succ, List.set_cons_zero]
              refine wpAny_ready (rs := [7, 8]) (by kernel_rfl) (by simp) ?_
              refine AllReady.cons rfl (fun K hK => ?_) ?_
              · go_simp
                refine hK _ _ ?_
                clear hK K
                refine wpAny_ready (rs := [8]) (by kernel_rfl) (by simp) ?_
                refine AllReady.cons rfl (fun K hK => ?_) AllReady.nil
                go_simp
                refine hK _ _ ?_
                clear hK K
                refine wpAny_done (by kernel_rfl) ?_ _
                exact HEND _ g2 cap _ _ _ _ _ _ _ _ HE.1 HE.2.1 HE.2.2.1 HE.2.2.2
              refine AllReady.cons rfl (fun K hK => ?_) AllReady.nil
              go_simp
              refine hK _ _ ?_
              clear hK K
              refine wpAny_ready (rs := [7]) (by kernel_rfl) (by simp) ?_
              refine AllReady.cons rfl (fun K hK => ?_) AllReady.nil
              go_simp
              refine hK _ _ ?_
              clear hK K
              refine wpAny_done (by kernel_rfl) ?_ _
              rw [set5_comm _ _ _ _ _ _ _ _ _ _ hgl, put5]
              exact HEND _ g2 cap _ _ _ _ _ _ _ _ HE.1 HE.2.1 HE.2.2.1 HE.2.2.2
            exact AllReady.nil
          exact AllReady.nil
        exact AllReady.nil
      exact AllReady.nil
    refine AllReady.cons rfl (fun K hK => ?_) ?_
    · go_simp
      refine hK _ _ ?_
      clear hK K
      have hZ := S.new (.cells #[.int .i64 0, .int .i64 0, .string ⟨#[]⟩, .slice none 0 0, .slice none 0 0] 31)
      have S := S.then_ (below1 _ (.cells #[.int .i64 0, .int .i64 0, .string ⟨#[]⟩, .slice none 0 0, .slice none 0 0] 31))
      have cx := row_cells S.hx
      dsimp only [T.cells] at cx
      have cl := row_cells S.hL
      refine wpAny_ready (rs := [0, 1]) (by kernel_rfl) (by simp) ?_
      refine AllReady.cons rfl (fun K hK => ?_) ?_
      · go_simp
        refine hK _ _ ?_
        clear hK K
        refine wpAny_take (i := 3) (v := .int .i64 ts.length) rfl (by kernel_rfl) (by kernel_rfl) (by kernel_rfl) (fun _ _ _ h => h) (Or.inl ⟨by rfl, fun w => by go_simp⟩) ?_
        simp only [Act.put, List.setIfInBounds_toArray, List.set_cons_succ, List.set_cons_zero]
        refine wpAny_ready (rs := [1]) (by kernel_rfl) (by simp) ?_
        refine AllReady.cons rfl (fun K hK => ?_) ?_
        · go_simp
          refine hK _ _ ?_
          clear hK K
          refine wpAny_ready (rs := [2]) (by kernel_rfl) (by simp) ?_
          refine AllReady.cons rfl (fun K hK => ?_) ?_
          · refine step_enter rfl 32 #[.agg #[.int .i64 ky, .int .i64 ny, .string sy, .slice lay ly.length lcy, .slice day dy.length dcy]] (by go_simp) ((clone_any (.mk ky ny sy lay lcy ly day dcy dy) ox _ S.hin).mono ?_)
            rintro e w2 ⟨⟨k', n', s', la', lc', l', da', dc', d'⟩, rfl, hv', ho, b2⟩
            refine ⟨_, rfl, ?_⟩
            dsimp only [T.arg, T.cells]
            refine hK _ _ ?_
            clear hK K
            try simp only [Act.put, List.setIfInBounds_toArray, List.set_cons_succ, List.set_cons_zero]
            have ho := ho.keep (B' := W.heap.size) (Only.refl [] _) (by simp) S.hB.size
            have hZ := row_then hZ b2
            have S := S.then_ b2
            have cx := row_cells S.hx
            dsimp only [T.cells] at cx
            have cl := row_cells S.hL
            refine wpAny_ready (rs := [5]) (by kernel_rfl) (by simp) ?_
            refine AllReady.cons rfl (fun K hK => ?_) ?_
            · refine step_append_lies _ rfl (.tmp 11) (.tmp 15) 28 rfl (w.heap.size + 2) 31 i0 _ 5 80 Tryd.underlying28 I0.out.1 I0.out.2.1 I0.out.2.2.1 I0.out.2.2.2 rfl (by decide) (.slice ra ts.length rc) ts.length _ (by simp [Act.eval]) (row_keep (own_rowL HW.out) S.hB) _ 1 1 [.int .i64 0, .int .i64 0, .string ⟨#[]⟩, .slice none 0 0, .slice none 0 0] rfl rfl (row_at hZ) (by simp [Value.oneCell']) (by decide) (by unfold maxLen; omega) (by omega) (by have := S.hB.size; omega) _ rfl ?_
              intro g2 cap w3 hown3 hgrow3 hg3 hlt3
              try go_simp
              refine hK _ _ ?_
              clear hK K cx cl
              obtain ⟨v0, v1, v2, v3, v4, c0, c1, c2, c3, c4, f0, f1, f2, f3, f4⟩ := own_room5 hown3 (i := ts.length) (room_of hown3)
              have HE := reach_step (B0 := W0.heap.size) (x := ⟨.mk ky ny sy lay lcy ly day dcy dy, ox, ix⟩) hRR.out S.hL HW.out HV.out htl S.hB ho hv' rfl hown3 hgrow3 hg3
              have hL3 := reach_box hRR.out HW.out S.hL S.hB hgrow3
              have hgl := reach_ne hRR.out HW.out S.hB hg3
              have cl3 := row_cells hL3
              have fl3 := row_free hL3
              clear hown3 hgrow3 hg3 hZ ho
              simp only [T.cells, put5] at HE
              refine wpAny_take (i := 6) (v := .pointer (some ⟨g2, ts.length * 5, none⟩)) rfl (by kernel_rfl) (by kernel_rfl) (by kernel_rfl) (fun _ _ _ h => h) (Or.inl ⟨by rfl, fun w => by go_simp; intro h; omega⟩) ?_
              simp only [Act.put, List.setIfInBounds_toArray, List.set_cons_succ, List.set_cons_zero]
              refine wpAny_ready (rs := [7, 8]) (by kernel_rfl) (by simp) ?_
              refine AllReady.cons rfl (fun K hK => ?_) ?_
              · go_simp
                refine hK _ _ ?_
                clear hK K
                refine wpAny_ready (rs := [8]) (by kernel_rfl) (by simp) ?_
                refine AllReady.cons rfl (fun K hK => ?_) AllReady.nil
                go_simp
                refine hK _ _ ?_
                clear hK K
                refine wpAny_done (by kernel_rfl) ?_ _
                exact HEND _ g2 cap _ _ _ _ _ _ _ _ HE.1 HE.2.1 HE.2.2.1 HE.2.2.2
              refine AllReady.cons rfl (fun K hK => ?_) AllReady.nil
              go_simp
              refine hK _ _ ?_
              clear hK K
              refine wpAny_ready (rs := [7]) (by kernel_rfl) (by simp) ?_
              refine AllReady.cons rfl (fun K hK => ?_) AllReady.nil
              go_simp
              refine hK _ _ ?_
              clear hK K
              refine wpAny_done (by kernel_rfl) ?_ _
              rw [set5_comm _ _ _ _ _ _ _ _ _ _ hgl, put5]
              exact HEND _ g2 cap _ _ _ _ _ _ _ _ HE.1 HE.2.1 HE.2.2.1 HE.2.2.2
            exact AllReady.nil
          exact AllReady.nil
        exact AllReady.nil
      refine AllReady.cons rfl (fun K hK => ?_) ?_
      · go_simp
        refine hK _ _ ?_
        clear hK K
        refine wpAny_ready (rs := [0, 2]) (by kernel_rfl) (by simp) ?_
        refine AllReady.cons rfl (fun K hK => ?_) ?_
        · go_simp
          refine hK _ _ ?_
          clear hK K
          refine wpAny_take (i := 3) (v := .int .i64 ts.length) rfl (by kernel_rfl) (by kernel_rfl) (by kernel_rfl) (fun _ _ _ h => h) (Or.inl ⟨by rfl, fun w => by go_simp⟩) ?_
          simp only [Act.put, List.setIfInBounds_toArray, List.set_cons_succ, List.set_cons_zero]
          refine wpAny_ready (rs := [2]) (by kernel_rfl) (by simp) ?_
          refine AllReady.cons rfl (fun K hK => ?_) ?_
          · refine step_enter rfl 32 #[.agg #[.int .i64 ky, .int .i64 ny, .string sy, .slice lay ly.length lcy, .slice day dy.length dcy]] (by go_simp) ((clone_any (.mk ky ny sy lay lcy ly day dcy dy) ox _ S.hin).mono ?_)
            rintro e w2 ⟨⟨k', n', s', la', lc', l', da', dc', d'⟩, rfl, hv', ho, b2⟩
            refine ⟨_, rfl, ?_⟩
            dsimp only [T.arg, T.cells]
            refine hK _ _ ?_
            clear hK K
            try simp only [Act.put, List.setIfInBounds_toArray, List.set_cons_succ, List.set_cons_zero]
            have ho := ho.keep (B' := W.heap.size) (Only.refl [] _) (by simp) S.hB.size
            have hZ := row_then hZ b2
            have S := S.then_ b2
            have cx := row_cells S.hx
            dsimp only [T.cells] at cx
            have cl := row_cells S.hL
            refine wpAny_ready (rs := [5]) (by kernel_rfl) (by simp) ?_
            refine AllReady.cons rfl (fun K hK => ?_) ?_
            · refine step_append_lies _ rfl (.tmp 11) (.tmp 15) 28 rfl (w.heap.size + 2) 31 i0 _ 5 80 Tryd.underlying28 I0.out.1 I0.out.2.1 I0.out.2.2.1 I0.out.2.2.2 rfl (by decide) (.slice ra ts.length rc) ts.length _ (by simp [Act.eval]) (row_keep (own_rowL HW.out) S.hB) _ 1 1 [.int .i64 0, .int .i64 0, .string ⟨#[]⟩, .slice none 0 0, .slice none 0 0] rfl rfl (row_at hZ) (by simp [Value.oneCell']) (by decide) (by unfold maxLen; omega) (by omega) (by have := S.hB.size; omega) _ rfl ?_
              intro g2 cap w3 hown3 hgrow3 hg3 hlt3
              try go_simp
              refine hK _ _ ?_
              clear hK K cx cl
              obtain ⟨v0, v1, v2, v3, v4, c0, c1, c2, c3, c4, f0, f1, f2, f3, f4⟩ := own_room5 hown3 (i := ts.length) (room_of hown3)
              have HE := reach_step (B0 := W0.heap.size) (x := ⟨.mk ky ny sy lay lcy ly day dcy dy, ox, ix⟩) hRR.out S.hL HW.out HV.out htl S.hB ho hv' rfl hown3 hgrow3 hg3
              have hL3 := reach_box hRR.out HW.out S.hL S.hB hgrow3
              have hgl := reach_ne hRR.out HW.out S.hB hg3
              have cl3 := row_cells hL3
              have fl3 := row_free hL3
              clear hown3 hgrow3 hg3 hZ ho
              simp only [T.cells, put5] at HE
              refine wpAny_take (i := 6) (v := .pointer (some ⟨g2, ts.length * 5, none⟩)) rfl (by kernel_rfl) (by kernel_rfl) (by kernel_rfl) (fun _ _ _ h => h) (Or.inl ⟨by rfl, fun w => by go_simp; intro h; omega⟩) ?_
              simp only [Act.put, List.setIfInBounds_toArray, List.set_cons_succ, List.set_cons_zero]
              refine wpAny_ready (rs := [7, 8]) (by kernel_rfl) (by simp) ?_
              refine AllReady.cons rfl (fun K hK => ?_) ?_
              · go_simp
                refine hK _ _ ?_
                clear hK K
                refine wpAny_ready (rs := [8]) (by kernel_rfl) (by simp) ?_
                refine AllReady.cons rfl (fun K hK => ?_) AllReady.nil
                go_simp
                refine hK _ _ ?_
                clear hK K
                refine wpAny_done (by kernel_rfl) ?_ _
                exact HEND _ g2 cap _ _ _ _ _ _ _ _ HE.1 HE.2.1 HE.2.2.1 HE.2.2.2
              refine AllReady.cons rfl (fun K hK => ?_) AllReady.nil
              go_simp
              refine hK _ _ ?_
              clear hK K
              refine wpAny_ready (rs := [7]) (by kernel_rfl) (by simp) ?_
              refine AllReady.cons rfl (fun K hK => ?_) AllReady.nil
              go_simp
              refine hK _ _ ?_
              clear hK K
              refine wpAny_done (by kernel_rfl) ?_ _
              rw [set5_comm _ _ _ _ _ _ _ _ _ _ hgl, put5]
              exact HEND _ g2 cap _ _ _ _ _ _ _ _ HE.1 HE.2.1 HE.2.2.1 HE.2.2.2
            exact AllReady.nil
          exact AllReady.nil
        refine AllReady.cons rfl (fun K hK => ?_) ?_
        · refine step_enter rfl 32 #[.agg #[.int .i64 ky, .int .i64 ny, .string sy, .slice lay ly.length lcy, .slice day dy.length dcy]] (by go_simp) ((clone_any (.mk ky ny sy lay lcy ly day dcy dy) ox _ S.hin).mono ?_)
          rintro e w2 ⟨⟨k', n', s', la', lc', l', da', dc', d'⟩, rfl, hv', ho, b2⟩
          refine ⟨_, rfl, ?_⟩
          dsimp only [T.arg, T.cells]
          refine hK _ _ ?_
          clear hK K
          try simp only [Act.put, List.setIfInBounds_toArray, List.set_cons_succ, List.set_cons_zero]
          have ho := ho.keep (B' := W.heap.size) (Only.refl [] _) (by simp) S.hB.size
          have hZ := row_then hZ b2
          have S := S.then_ b2
          have cx := row_cells S.hx
          dsimp only [T.cells] at cx
          have cl := row_cells S.hL
          refine wpAny_ready (rs := [0]) (by kernel_rfl) (by simp) ?_
          refine AllReady.cons rfl (fun K hK => ?_) ?_
          · go_simp
            refine hK _ _ ?_
            clear hK K
            refine wpAny_take (i := 3) (v := .int .i64 ts.length) rfl (by kernel_rfl) (by kernel_rfl) (by kernel_rfl) (fun _ _ _ h => h) (Or.inl ⟨by rfl, fun w => by go_simp⟩) ?_
            simp only [Act.put, List.setIfInBounds_toArray, List.set_cons_succ, List.set_cons_zero]
            refine wpAny_ready (rs := [5]) (by kernel_rfl) (by simp) ?_
            refine AllReady.cons rfl (fun K hK => ?_) ?_
            · refine step_append_lies _ rfl (.tmp 11) (.tmp 15) 28 rfl (w.heap.size + 2) 31 i0 _ 5 80 Tryd.underlying28 I0.out.1 I0.out.2.1 I0.out.2.2.1 I0.out.2.2.2 rfl (by decide) (.slice ra ts.length rc) ts.length _ (by simp [Act.eval]) (row_keep (own_rowL HW.out) S.hB) _ 1 1 [.int .i64 0, .int .i64 0, .string ⟨#[]⟩, .slice none 0 0, .slice none 0 0] rfl rfl (row_at hZ) (by simp [Value.oneCell']) (by decide) (by unfold maxLen; omega) (by omega) (by have := S.hB.size; omega) _ rfl ?_
              intro g2 cap w3 hown3 hgrow3 hg3 hlt3
              try go_simp
              refine hK _ _ ?_
              clear hK K cx cl
              obtain ⟨v0, v1, v2, v3, v4, c0, c1, c2, c3, c4, f0, f1, f2, f3, f4⟩ := own_room5 hown3 (i := ts.length) (room_of hown3)
              have HE := reach_step (B0 := W0.heap.size) (x := ⟨.mk ky ny sy lay lcy ly day dcy dy, ox, ix⟩) hRR.out S.hL HW.out HV.out htl S.hB ho hv' rfl hown3 hgrow3 hg3
              have hL3 := reach_box hRR.out HW.out S.hL S.hB hgrow3
              have hgl := reach_ne hRR.out HW.out S.hB hg3
              have cl3 := row_cells hL3
              have fl3 := row_free hL3
              clear hown3 hgrow3 hg3 hZ ho
              simp only [T.cells, put5] at HE
              refine wpAny_take (i := 6) (v := .pointer (some ⟨g2, ts.length * 5, none⟩)) rfl (by kernel_rfl) (by kernel_rfl) (by kernel_rfl) (fun _ _ _ h => h) (Or.inl ⟨by rfl, fun w => by go_simp; intro h; omega⟩) ?_
              simp only [Act.put, List.setIfInBounds_toArray, List.set_cons_succ, List.set_cons_zero]
              refine wpAny_ready (rs := [7, 8]) (by kernel_rfl) (by simp) ?_
              refine AllReady.cons rfl (fun K hK => ?_) ?_
              · go_simp
                refine hK _ _ ?_
                clear hK K
                refine wpAny_ready (rs := [8]) (by kernel_rfl) (by simp) ?_
                refine AllReady.cons rfl (fun K hK => ?_) AllReady.nil
                go_simp
                refine hK _ _ ?_
                clear hK K
                refine wpAny_done (by kernel_rfl) ?_ _
                exact HEND _ g2 cap _ _ _ _ _ _ _ _ HE.1 HE.2.1 HE.2.2.1 HE.2.2.2
              refine AllReady.cons rfl (fun K hK => ?_) AllReady.nil
              go_simp
              refine hK _ _ ?_
              clear hK K
              refine wpAny_ready (rs := [7]) (by kernel_rfl) (by simp) ?_
              refine AllReady.cons rfl (fun K hK => ?_) AllReady.nil
              go_simp
              refine hK _ _ ?_
              clear hK K
              refine wpAny_done (by kernel_rfl) ?_ _
              rw [set5_comm _ _ _ _ _ _ _ _ _ _ hgl, put5]
              exact HEND _ g2 cap _ _ _ _ _ _ _ _ HE.1 HE.2.1 HE.2.2.1 HE.2.2.2
            exact AllReady.nil
          exact AllReady.nil
        exact AllReady.nil
      exact AllReady.nil
    exact AllReady.nil
  case done =>
    rintro D xs W hD hxs ⟨hR, hlt⟩ hK
    rename_i Kr hKr
    refine hKr _ _ ?_
    clear hKr Kr HS qL qV qP H0 hlo
    obtain ⟨hb, hW, ra, rc, ts, hL, hown, hv⟩ := hR
    have hl2 : ts.length < 1000 := by
      have := congrArg List.length hv
      simp only [valsOf, List.length_map] at this
      omega
    have cl := row_cells hL
    gi_wp2
    refine ⟨by simp, .inl ⟨_, _, rfl, run_takeDeferred hK, ?_⟩⟩
    refine ⟨_, results_tmp rfl _ _ _, ra, rc, ts, rfl, ?_, ?_, ?_⟩
    · rw [hv, hxs]
      unfold reachV
      rw [List.take_of_length_le]
      rw [← hxs, ← hv, List.length_map]
      omega
    · exact reach_end hown hsz hD hK
    · exact reach_endB hb hsz hD hK
  case stop =>
    rintro D c pre W hD hxs ⟨rfl, hR, hlen⟩ hK
    clear HS qL qV qP H0 hlo
    obtain ⟨hb, hW, ra, rc, ts, hL, hown, hv⟩ := hR
    have hl2 : Hid (ts.length = 1000) := Lib.hid (by
      have := congrArg List.length hv
      simp only [valsOf, List.length_map] at this
      omega)
    have cl := row_cells hL
    gi_wp2
    refine ⟨by simp, .inl ⟨_, _, rfl, run_takeDeferred hK, ?_⟩⟩
    refine ⟨_, results_tmp rfl _ _ _, ra, rc, ts, rfl, ?_, ?_, ?_⟩
    · rw [hv]
      unfold reachV
      have := List.prefix_iff_eq_take.1 hxs
      rw [this]
      congr 1
      rw [← hv, List.length_map, hl2.out]
    · exact reach_end hown hsz hD hK
    · exact reach_endB hb hsz hD hK
#print axioms reach_any
end Go.Proofs.YtkklnfihjikilaaDoor
