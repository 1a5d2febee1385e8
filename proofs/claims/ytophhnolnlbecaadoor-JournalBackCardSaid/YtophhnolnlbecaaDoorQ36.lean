/- Rows of ints: how they lie, how they grow, as steps of a walk. A journal on a disk, with another beside it or none, and two rows that a law keeps: how it lies. The bytes of the pages 1 to 3 of a disk: law15's own 'area'. No statement is proved here. -/
import Derived.Test.YtophhnolnlbecaaDoorQ1
import Derived.Test.YtophhnolnlbecaaDoorQ33
namespace Go.Proofs.YtophhnolnlbecaaDoor
open Go.RowKit
set_option maxRecDepth 100000

/-- A row of ints stands at that place: its elements, as numbers. -/
def InI (w : World) (a : Option Addr) (l : List Int) : Prop := ∀ i x, l[i]? = some x → ∃ b o, a = some ⟨b, o, none⟩ ∧ w.cell? ⟨b, o + i, none⟩ = some (.int .i64 x)
theorem InI.then_ {w w' : World} {a : Option Addr} {l : List Int} (h : InI w a l) (hb : Below w.heap.size w w') : InI w' a l := fun i x hx => by
  obtain ⟨b, o, ha, hc⟩ := h i x hx
  exact ⟨b, o, ha, (hb.cell (cell_lt hc)).trans hc⟩
theorem InI.one {w : World} {a : Option Addr} {l : List Int} (h : InI w a l) {i : Nat} (hi : i < l.length) : ∃ b o x, a = some ⟨b, o, none⟩ ∧ l[i]? = some x ∧ w.cell? ⟨b, o + i, none⟩ = some (.int .i64 x) := by
  obtain ⟨b, o, ha, hc⟩ := h i _ (List.getElem?_eq_getElem hi)
  exact ⟨b, o, _, ha, List.getElem?_eq_getElem hi, hc⟩
theorem InI.nil (w : World) (a : Option Addr) : InI w a [] := fun i x h => by simp at h
/-- Bytes as what stands in their cells. -/
def itV (l : List Int) : List Value := l.map (Value.int .i64)
theorem info_int : (Tryd.prog.info? 3).map (fun i => (i.zero, i.size, i.bytes)) = some (some (.int .i64 0), 1, 8) := by kernel_rfl
theorem itV_append (a b : List Int) : itV (a ++ b) = itV a ++ itV b := List.map_append
theorem itV_len (a : List Int) : (itV a).length = a.length := List.length_map _
theorem itV_one (a : List Int) : ∀ u ∈ itV a, u.oneCell' = true := by
  intro u hu
  obtain ⟨x, _, rfl⟩ := List.mem_map.1 hu
  rfl
/-- A row of ints that a call owns: from block B on, so many. -/
def OwnI (w : World) (B : Nat) (v : Value) (l : List Int) : Prop := w.ownsRow B 3 1 v l.length (itV l)
theorem OwnI.nil (w : World) (B : Nat) : OwnI w B (.slice none 0 0) [] := World.ownsRow_nil _ _ _ _
theorem OwnI.alloc {w : World} {B : Nat} {v : Value} {l : List Int} (h : OwnI w B v l) (o : Obj) : OwnI (w.alloc o) B v l := World.ownsRow.alloc h o
theorem OwnI.drew {w : World} {B : Nat} {v : Value} {l : List Int} (h : OwnI w B v l) : OwnI w.drew B v l := h
theorem OwnI.block {w : World} {B : Nat} {v : Value} {l : List Int} (h : OwnI w B v l) : ∀ g, v.ownBlock = some g → B ≤ g ∧ g < w.heap.size := World.ownsRow.lt h
theorem OwnI.keep {w w' : World} {B : Nat} {v : Value} {l : List Int} (h : OwnI w B v l) (hb : ∀ g, v.ownBlock = some g → w'.heap[g]? = w.heap[g]?) : OwnI w' B v l := by
  obtain ⟨h1, h2⟩ := h
  refine ⟨h1, ?_⟩
  rcases h2 with h2 | ⟨g, cap, cur, hv, hB, hg, hrest⟩
  · exact .inl h2
  · refine .inr ⟨g, cap, cur, hv, hB, ?_, hrest⟩
    rw [hb g (by rw [hv]; rfl)]
    exact hg
theorem OwnI.then_ {w w' : World} {B : Nat} {v : Value} {l : List Int} (h : OwnI w B v l) (hb : Below w.heap.size w w') : OwnI w' B v l := h.keep fun g hg => hb.block g (h.block g hg).2
theorem OwnI.base {w : World} {B B' : Nat} {v : Value} {l : List Int} (h : OwnI w B v l) (hB : B' ≤ B) : OwnI w B' v l := by
  obtain ⟨h1, h2⟩ := h
  refine ⟨h1, ?_⟩
  rcases h2 with h2 | ⟨g, cap, cur, hv, hb, hrest⟩
  · exact .inl h2
  · exact .inr ⟨g, cap, cur, hv, by omega, hrest⟩
/-- Its shape. -/
theorem OwnI.shape {w : World} {B : Nat} {v : Value} {l : List Int} (h : OwnI w B v l) : ∃ a c, v = .slice a l.length c ∧ InI w a l ∧ (a = none → c = 0 ∧ l = []) ∧ l.length ≤ c ∧ c ≤ maxLen := by
  have h0 := h
  obtain ⟨h1, h2⟩ := h
  rcases h2 with ⟨hv, h2⟩ | ⟨g, cap, cur, hv, hb, hg, hle, hcm, hrest⟩
  · have : l = [] := List.eq_nil_of_length_eq_zero h2
    subst this
    exact ⟨none, 0, hv, InI.nil _ _, fun _ => ⟨rfl, rfl⟩, by simp, by simp⟩
  · refine ⟨some ⟨g, 0, none⟩, cap, hv, fun i x hx => ⟨g, 0, rfl, ?_⟩, fun h => (by cases h), hle, hcm⟩
    subst hv
    have hi : i < l.length := lt_of_get hx
    have h3 := World.ownsRow.cellAt h0 i (by omega)
    rw [Nat.zero_add, h3, itV, List.getElem?_map, hx]
    rfl
theorem OwnI.lit (w : World) (bs : List Int) (hm : bs.length ≤ maxLen) : OwnI (w.alloc (.cells (itV bs).toArray 3)) w.heap.size (.slice (some ⟨w.heap.size, 0, none⟩) bs.length bs.length) bs := by
  have h := World.ownsRow_lit (base := w.heap.size) (size := 1) (e := 3) w (itV bs).toArray bs.length (Nat.le_refl _) hm (by simp [itV])
  simpa [OwnI] using h
/-- A row that was appended to: only it, and what is new, has turned. -/
structure GrewI (B : Nat) (w w' : World) (v v' : Value) (l' : List Int) : Prop where
  own : OwnI w' B v' l'
  grow : w.grownBy w' v.ownBlock
  at_ : v'.ownBlock = v.ownBlock ∨ ∃ g, v'.ownBlock = some g ∧ w.heap.size ≤ g
theorem GrewI.refl {B : Nat} {w : World} {v : Value} {l : List Int} (h : OwnI w B v l) : GrewI B w w v v l := ⟨h, World.grownBy.refl _ _, .inl rfl⟩
theorem GrewI.trans {B B' : Nat} {w w1 w2 : World} {v v1 v2 : Value} {l1 l2 : List Int} (h : GrewI B' w w1 v v1 l1) (k : GrewI B w1 w2 v1 v2 l2) : GrewI B w w2 v v2 l2 := by
  refine ⟨k.own, ⟨k.grow.os.trans h.grow.os, k.grow.tape.trans h.grow.tape, k.grow.output.trans h.grow.output, Nat.le_trans h.grow.size k.grow.size, fun i hi hn => ?_⟩, ?_⟩
  · refine (k.grow.block i (Nat.lt_of_lt_of_le hi h.grow.size) fun e => ?_).trans (h.grow.block i hi hn)
    rcases h.at_ with h1 | ⟨g, h1, h2⟩
    · exact hn (e.trans h1)
    · rw [h1] at e; injection e with e; omega
  · rcases k.at_ with k1 | ⟨g, k1, k2⟩
    · rcases h.at_ with h1 | ⟨g, h1, h2⟩
      · exact .inl (k1.trans h1)
      · exact .inr ⟨g, k1.trans h1, h2⟩
    · exact .inr ⟨g, k1, Nat.le_trans h.grow.size k2⟩
theorem GrewI.pre {B : Nat} {w w1 w2 : World} {v v2 : Value} {l2 : List Int} (h : Below w.heap.size w w1) (k : GrewI B w1 w2 v v2 l2) : GrewI B w w2 v v2 l2 := by
  refine ⟨k.own, ⟨k.grow.os.trans h.os, k.grow.tape.trans h.tape, k.grow.output.trans h.output, Nat.le_trans h.size k.grow.size, fun i hi hn => (k.grow.block i (Nat.lt_of_lt_of_le hi h.size) hn).trans (h.block i hi)⟩, ?_⟩
  rcases k.at_ with k1 | ⟨g, k1, k2⟩
  · exact .inl k1
  · exact .inr ⟨g, k1, Nat.le_trans h.size k2⟩
theorem GrewI.post {B : Nat} {w w1 w2 : World} {v v1 : Value} {l1 : List Int} (h : GrewI B w w1 v v1 l1) (k : Below w1.heap.size w1 w2) : GrewI B w w2 v v1 l1 :=
  ⟨h.own.then_ k, ⟨k.os.trans h.grow.os, k.tape.trans h.grow.tape, k.output.trans h.grow.output, Nat.le_trans h.grow.size k.size, fun i hi hn => (k.block i (Nat.lt_of_lt_of_le hi h.grow.size)).trans (h.grow.block i hi hn)⟩, h.at_⟩
theorem GrewI.below {B C : Nat} {a w w' : World} {v v' : Value} {l l' : List Int} (h : GrewI B w w' v v' l') (hv : OwnI w B v l) (ha : Below C a w) (hC : C ≤ B) (hB : B ≤ w.heap.size) : Below C a w' :=
  ha.grown h.grow (Nat.le_trans hC hB) (fun g hg => Nat.le_trans hC (hv.block g hg).1)
theorem GrewI.size {B : Nat} {w w' : World} {v v' : Value} {l' : List Int} (h : GrewI B w w' v v' l') : w.heap.size ≤ w'.heap.size := h.grow.size
/-- Another block is as it was. -/
theorem GrewI.row {B : Nat} {w w' : World} {v v' : Value} {l' : List Int} (h : GrewI B w w' v v' l') {g : Nat} {o : Obj} (hg : w.heap[g]? = some o) (hn : ∀ b, v.ownBlock = some b → b ≠ g) : w'.heap[g]? = some o := by
  have hlt : g < w.heap.size := by
    rcases Nat.lt_or_ge g w.heap.size with h | h
    · exact h
    · rw [Array.getElem?_eq_none h] at hg; cases hg
  rw [h.grow.block g hlt (fun e => hn g e.symm rfl)]
  exact hg
theorem GrewI.off {B : Nat} {w w' : World} {v v' : Value} {l' : List Int} (h : GrewI B w w' v v' l') {g : Nat} (hg : g < w.heap.size) (hn : ∀ b, v.ownBlock = some b → b ≠ g) : ∀ b, v'.ownBlock = some b → b ≠ g := by
  intro b hb
  rcases h.at_ with h1 | ⟨k, h1, h2⟩
  · exact hn b (h1 ▸ hb)
  · rw [h1] at hb; injection hb with hb; omega
/-- A box that was made behind the row, and what is then appended. -/
theorem OwnI.behind {B : Nat} {w : World} {v : Value} {l : List Int} (h : OwnI w B v l) : ∀ b, v.ownBlock = some b → b ≠ w.heap.size := fun b hb e => by have := (h.block b hb).2; omega
/-- The runs. -/
theorem run_apI (w : World) (ty : TypeId) (B : Nat) (v : Value) (l : List Int) (hown : OwnI w B v l) (ad : Addr) (n c : Nat) (bs : List Int) (hn : bs.length = n) (hg : ∀ j u, (itV bs)[j]? = some u → w.cell? (ad.add j) = some u) (hl : l.length + n ≤ 17592186044416) (hB : B ≤ w.heap.size) :
    ∃ v' w', (Builtin.append_ #[43, 43] ty #[v, .slice (some ad) n c]).run Tryd.prog w = .ok v' w' ∧ GrewI B w w' v v' (l ++ bs) := by
  subst hn
  obtain ⟨i0, hi0, hz0, hz1, hz2⟩ := info_parts info_int
  obtain ⟨v', w', hr, h1, h2, -, h4⟩ := run_append_own_at (P := Tryd.prog) w B 43 ty 3 i0 _ 1 8 Tryd.underlying43 hi0 hz0 hz1 hz2 rfl (by decide) v l.length (itV l) hown ad bs.length c (itV bs) (by rw [itV_len]; omega) hg (itV_one bs) (by unfold maxLen; omega) (by omega) hB
  refine ⟨v', w', hr, ?_, h2, ?_⟩
  · unfold OwnI
    rw [List.length_append, itV_append]
    exact h1
  · rcases h4 with h4 | h4
    · exact .inl h4
    · exact .inr ⟨_, h4, Nat.le_refl _⟩
theorem run_apIR (w : World) (ty : TypeId) (B : Nat) (v : Value) (l : List Int) (hown : OwnI w B v l) (b : Option Addr) (n c : Nat) (bs : List Int) (hn : bs.length = n) (hb : InI w b bs) (h0 : b = none → c = 0 ∧ bs = []) (hl : l.length + n ≤ 17592186044416) (hB : B ≤ w.heap.size) :
    ∃ v' w', (Builtin.append_ #[43, 43] ty #[v, .slice b n c]).run Tryd.prog w = .ok v' w' ∧ GrewI B w w' v v' (l ++ bs) := by
  cases b with
  | none =>
    obtain ⟨rfl, rfl⟩ := h0 rfl
    subst hn
    obtain ⟨i0, hi0, hz0, hz1, hz2⟩ := info_parts info_int
    exact ⟨v, w, run_append_owned_none (P := Tryd.prog) (w := w) B 43 ty 3 i0 1 Tryd.underlying43 hi0 v l.length (itV l) hown, by simpa using GrewI.refl hown⟩
  | some ad =>
    refine run_apI w ty B v l hown ad n c bs hn (fun j u hj => ?_) hl hB
    rw [itV, List.getElem?_map, Option.map_eq_some_iff] at hj
    obtain ⟨y, hy, rfl⟩ := hj
    obtain ⟨bb, oo, e, hc⟩ := hb j y hy
    injection e with e
    subst e
    rw [show (⟨bb, oo, none⟩ : Addr).add j = ⟨bb, oo + j, none⟩ by unfold Addr.add; split <;> simp_all]
    exact hc
/-- 'append(b, x, y ..)': the ints lie in a block just made. -/
theorem apIL {ops : Array Oper} {rest : List Oper} {o : Oper} {a : Act} {w : World} {Q : Exit → Act → World → Prop} (cs : Array Value) (hgd : o.guard = none) (s x : Operand)
    (ho : o.op = .call { callee := .builtin .append, args := #[s, x], argTypes := #[43, 43] }) (B : Nat) (v : Value) (l : List Int) (hs : a.eval s = v) (hown : OwnI w B v l)
    (bs : List Int) (g n c : Nat) (hx : a.eval x = .slice (some ⟨g, 0, none⟩) n c) (hg : g = w.heap.size) (hc : cs = (itV bs).toArray) (hn : bs.length = n) (hl : l.length + n ≤ 17592186044416) (hB : B ≤ w.heap.size)
    (h : ∀ v' w', GrewI B w w' v v' (l ++ bs) → wpList Tryd.prog ops Q rest (a.put o.dst v') w') : wpList Tryd.prog ops Q (o :: rest) a (w.alloc (.cells cs 3)) := by
  subst hc hg
  obtain ⟨v', w', hr, h1⟩ := run_apI (w.alloc (.cells (itV bs).toArray 3)) o.type B v l (hown.alloc _) ⟨w.heap.size, 0, none⟩ n c bs hn (news_at w _ _ _ rfl) hl (Nat.le_trans hB (below1 _ _).size)
  exact wpList_ap hgd s x _ _ ho _ _ v' w' hs hx hr (h v' w' (h1.pre (below1 _ _)))
theorem stIL {ops : Array Oper} {o : Oper} {a : Act} {w : World} {K : Act → World → Prop} {Q : Exit → Act → World → Prop} {E : Prop} (cs : Array Value) (hgd : o.guard = none) (s x : Operand)
    (ho : o.op = .call { callee := .builtin .append, args := #[s, x], argTypes := #[43, 43] }) (B : Nat) (v : Value) (l : List Int) (hs : a.eval s = v) (hown : OwnI w B v l)
    (bs : List Int) (g n c : Nat) (hx : a.eval x = .slice (some ⟨g, 0, none⟩) n c) (hg : g = w.heap.size) (hc : cs = (itV bs).toArray) (hn : bs.length = n) (hl : l.length + n ≤ 17592186044416) (hB : B ≤ w.heap.size)
    (h : ∀ v' w', GrewI B w w' v v' (l ++ bs) → K (a.put o.dst v') w') : if Region.wanted o (yielded ops a.tmps) = true then Oper.wp Tryd.prog o a (w.alloc (.cells cs 3)) K Q else E := by
  subst hc hg
  obtain ⟨v', w', hr, h1⟩ := run_apI (w.alloc (.cells (itV bs).toArray 3)) o.type B v l (hown.alloc _) ⟨w.heap.size, 0, none⟩ n c bs hn (news_at w _ _ _ rfl) hl (Nat.le_trans hB (below1 _ _).size)
  exact step_ap hgd s x _ _ ho _ _ v' w' hs hx hr (h v' w' (h1.pre (below1 _ _)))
theorem wpList_apI {ops : Array Oper} {rest : List Oper} {o : Oper} {a : Act} {w : World} {Q : Exit → Act → World → Prop} (hgd : o.guard = none) (s x : Operand)
    (ho : o.op = .call { callee := .builtin .append, args := #[s, x], argTypes := #[43, 43] }) (B : Nat) (v : Value) (l : List Int) (hs : a.eval s = v) (hown : OwnI w B v l)
    (ad : Addr) (n c : Nat) (bs : List Int) (hx : a.eval x = .slice (some ad) n c) (hn : bs.length = n) (hg : ∀ j u, (itV bs)[j]? = some u → w.cell? (ad.add j) = some u) (hl : l.length + n ≤ 17592186044416) (hB : B ≤ w.heap.size)
    (h : ∀ v' w', GrewI B w w' v v' (l ++ bs) → wpList Tryd.prog ops Q rest (a.put o.dst v') w') : wpList Tryd.prog ops Q (o :: rest) a w := by
  obtain ⟨v', w', hr, h1⟩ := run_apI w o.type B v l hown ad n c bs hn hg hl hB
  exact wpList_ap hgd s x _ _ ho _ _ v' w' hs hx hr (h v' w' h1)
/-- 'append(b, x...)', of a row that lies there, or of none. -/
theorem apIR {ops : Array Oper} {rest : List Oper} {o : Oper} {a : Act} {w : World} {Q : Exit → Act → World → Prop} (hgd : o.guard = none) (s x : Operand)
    (ho : o.op = .call { callee := .builtin .append, args := #[s, x], argTypes := #[43, 43] }) (B : Nat) (v : Value) (l : List Int) (hs : a.eval s = v) (hown : OwnI w B v l)
    (b : Option Addr) (n c : Nat) (bs : List Int) (hx : a.eval x = .slice b n c) (hn : bs.length = n) (hb : InI w b bs) (h0 : b = none → c = 0 ∧ bs = []) (hl : l.length + n ≤ 17592186044416) (hB : B ≤ w.heap.size)
    (h : ∀ v' w', GrewI B w w' v v' (l ++ bs) → wpList Tryd.prog ops Q rest (a.put o.dst v') w') : wpList Tryd.prog ops Q (o :: rest) a w := by
  obtain ⟨v', w', hr, h1⟩ := run_apIR w o.type B v l hown b n c bs hn hb h0 hl hB
  exact wpList_ap hgd s x _ _ ho _ _ v' w' hs hx hr (h v' w' h1)
theorem stIR {ops : Array Oper} {o : Oper} {a : Act} {w : World} {K : Act → World → Prop} {Q : Exit → Act → World → Prop} {E : Prop} (hgd : o.guard = none) (s x : Operand)
    (ho : o.op = .call { callee := .builtin .append, args := #[s, x], argTypes := #[43, 43] }) (B : Nat) (v : Value) (l : List Int) (hs : a.eval s = v) (hown : OwnI w B v l)
    (b : Option Addr) (n c : Nat) (bs : List Int) (hx : a.eval x = .slice b n c) (hn : bs.length = n) (hb : InI w b bs) (h0 : b = none → c = 0 ∧ bs = []) (hl : l.length + n ≤ 17592186044416) (hB : B ≤ w.heap.size)
    (h : ∀ v' w', GrewI B w w' v v' (l ++ bs) → K (a.put o.dst v') w') : if Region.wanted o (yielded ops a.tmps) = true then Oper.wp Tryd.prog o a w K Q else E := by
  obtain ⟨v', w', hr, h1⟩ := run_apIR w o.type B v l hown b n c bs hn hb h0 hl hB
  exact step_ap hgd s x _ _ ho _ _ v' w' hs hx hr (h v' w' h1)
theorem OwnI.only {w w' : World} {B : Nat} {v : Value} {l : List Int} {S : List Nat} (h : OwnI w B v l) (ho : Only S w w') (hS : ∀ b ∈ S, b < B) : OwnI w' B v l := h.keep fun g hg => ho.block g (h.block g hg).2 (fun hc => by have := hS _ hc; have := (h.block g hg).1; omega)
theorem OwnI.form {w : World} {B : Nat} {v : Value} {l : List Int} (h : OwnI w B v l) (hl : 1 ≤ l.length) : ∃ g c, v = .slice (some ⟨g, 0, none⟩) l.length c ∧ l.length ≤ c := by
  obtain ⟨g, c, rfl, -, -⟩ := World.ownsRow.form h hl
  refine ⟨g, c, rfl, ?_⟩
  obtain ⟨h1, h2⟩ := h
  rcases h2 with ⟨hv, _⟩ | ⟨g', cap, cur, hv, _, _, hle, _⟩
  · cases hv
  · injection hv with _ _ e; omega
theorem OwnI.set {w : World} {B g n c : Nat} {l : List Int} (h : OwnI w B (.slice (some ⟨g, 0, none⟩) n c) l) (j : Nat) (x : Int) : OwnI (w.setCell ⟨g, j, none⟩ (.int .i64 x)) B (.slice (some ⟨g, 0, none⟩) n c) (l.set j x) ∧ w.grownBy (w.setCell ⟨g, j, none⟩ (.int .i64 x)) (some g) := by
  have hn : n = l.length := by
    obtain ⟨h1, h2⟩ := h
    rcases h2 with ⟨hv, _⟩ | ⟨g', cap, cur, hv, _⟩
    · cases hv
    · injection hv
  subst hn
  obtain ⟨h1, h2⟩ := World.ownsRow.stored h j (.int .i64 x)
  refine ⟨?_, h2⟩
  unfold OwnI
  rw [List.length_set, itV, List.map_set]
  exact h1
theorem OwnI.at_ {w : World} {B g n c : Nat} {l : List Int} (h : OwnI w B (.slice (some ⟨g, 0, none⟩) n c) l) {j : Nat} {x : Int} (hx : l[j]? = some x) : w.cell? ⟨g, j, none⟩ = some (.int .i64 x) ∧ w.frozen? ⟨g, j, none⟩ = false := by
  have hn : n = l.length := by
    obtain ⟨h1, h2⟩ := h
    rcases h2 with ⟨hv, _⟩ | ⟨g', cap, cur, hv, _⟩
    · cases hv
    · injection hv
  subst hn
  refine ⟨?_, World.ownsRow.frozenAt h j⟩
  rw [World.ownsRow.cellAt h j (by have := lt_of_get hx; omega), itV, List.getElem?_map, hx]
  rfl
theorem OwnI.slice {w : World} {B n c : Nat} {a : Option Addr} {l : List Int} (h : OwnI w B (.slice a n c) l) : n = l.length := by
  obtain ⟨a', c', e, -⟩ := h.shape
  injection e
theorem OwnI.grown {w w' : World} {B : Nat} {v : Value} {l : List Int} {row : Option Nat} (h : OwnI w B v l) (hg : w.grownBy w' row) (hn : ∀ g, v.ownBlock = some g → row ≠ some g) : OwnI w' B v l :=
  h.keep fun g hg' => hg.block g (h.block g hg').2 (fun e => hn g hg' e.symm)
theorem OwnI.inI {w : World} {B g n c : Nat} {l : List Int} (h : OwnI w B (.slice (some ⟨g, 0, none⟩) n c) l) : InI w (some ⟨g, 0, none⟩) l := fun i x hx => ⟨g, 0, rfl, by rw [Nat.zero_add]; exact (h.at_ hx).1⟩
theorem InI.prefix_ {w : World} {a : Option Addr} {l m : List Int} (h : InI w a (l ++ m)) : InI w a l := fun i x hx => h i x (by rw [List.getElem?_append_left (lt_of_get hx)]; exact hx)
end Go.Proofs.YtophhnolnlbecaaDoor
namespace Go.Proofs.YtophhnolnlbecaaDoor
open Go.RowKit
set_option maxRecDepth 100000

theorem OwnI.obj {w : World} {B : Nat} {v : Value} {l : List Int} (h : OwnI w B v l) : ∀ g, v.ownBlock = some g → ∃ cur, w.heap[g]? = some (.cells cur 3) := by
  obtain ⟨h1, h2⟩ := h
  intro g hg
  rcases h2 with ⟨hv, -⟩ | ⟨g', cap, cur, hv, hb, hg', hrest⟩
  · rw [hv] at hg
    cases hg
  · rw [hv] at hg
    injection hg with hg
    subst hg
    exact ⟨cur, hg'⟩
/-- Blocks of numbers alone have turned. -/
def TI : Obj → Prop
  | .cells _ t _ => t = 3
  | _ => False
theorem TI_no {t : TypeId} (h : t ≠ 3) (cur : Array Value) : ¬ TI (.cells cur t) := h
theorem TI_TB (cur : Array Value) (fr : Nat × Nat) : ¬ TB (.cells cur 3 fr) := by
  show ¬ ((3 : Nat) = 77 ∨ (3 : Nat) = 100)
  decide
theorem OwnI.jturns {w w' : World} {B B' : Nat} {v : Value} {l : List Int} {F : List Nat} (h : OwnI w B v l) (ht : JTurns F B' w w') (hF : ∀ y, v.ownBlock = some y → y ∉ F) : OwnI w' B v l := h.keep fun g hg => by
  obtain ⟨cur, hc⟩ := h.obj g hg
  exact (ht.block g _ hc (TI_TB _ _) (hF g hg)).trans hc.symm
structure JM (Jn : World → List Nat → Nat → JS → Prop) (W w : World) (lo h N : Nat) (d : Dk) (F1 F2 : List Nat) (a1 : Nat) (J1 : JS) (o2 : Option (Nat × JS)) (p : Value) (l : List (Value × List Int)) (q : Value) (es : List Int) : Prop where
  box : BoxAt w ⟨lo, fun y => y ∈ F1 ∨ y ∈ F2⟩ J1.g d N
  hand : w.heap[h]? = some (.cells #[.pointer (some ⟨J1.g, 0, none⟩)] 79)
  one : Jn w F1 a1 J1
  two : ∀ x, o2 = some x → Jn w F2 x.1 x.2
  two0 : o2 = none → F2 = []
  apart : ∀ b ∈ F1, b ∉ F2
  nh : h ∉ F1 ∧ h ∉ F2
  below : Below W.heap.size W w
  hlo : W.heap.size ≤ lo
  allB : d.allB
  ok : J1.ok d
  put : Put W w lo p l
  offP : ∀ y, p.ownBlock = some y → y ∉ F1 ∧ y ∉ F2
  ints : OwnI w lo q es
  offQ : ∀ y, q.ownBlock = some y → y ∉ F1 ∧ y ∉ F2
section
variable {Jn : World → List Nat → Nat → JS → Prop} {W w w' : World} {lo h N : Nat} {d : Dk} {F1 F2 : List Nat} {a1 : Nat} {J1 : JS} {o2 : Option (Nat × JS)} {p q : Value} {l : List (Value × List Int)} {es : List Int}
theorem JM.second (P : P15J W Jn) (s : JM Jn W w lo h N d F1 F2 a1 J1 o2 p l q es) : ∀ b ∈ F2, b < w.heap.size ∧ ∃ cur t fr, w.heap[b]? = some (.cells cur t fr) ∧ t ≠ 77 ∧ t ≠ 100 := fun b hb => by
  cases ho : o2 with
  | none => rw [s.two0 ho] at hb; cases hb
  | some x => exact ⟨(P.lt (s.two x ho) b hb).2, P.form (s.two x ho) b hb⟩
theorem JM.then_ (P : P15J W Jn) (s : JM Jn W w lo h N d F1 F2 a1 J1 o2 p l q es) (hb : Below w.heap.size w w') : JM Jn W w' lo h N d F1 F2 a1 J1 o2 p l q es :=
  { s with
    box := s.box.then_ hb
    hand := (hb.block _ (lt_of_block s.hand)).trans s.hand
    one := P.keep s.one fun b k => hb.block b (P.lt s.one b k).2
    two := fun x hx => P.keep (s.two x hx) fun b k => hb.block b (P.lt (s.two x hx) b k).2
    below := below_then s.below hb
    put := s.put.then_ hb
    ints := s.ints.then_ hb }
theorem JM.pq (s : JM Jn W w lo h N d F1 F2 a1 J1 o2 p l q es) {b : Nat} (hp : p.ownBlock = some b) : q.ownBlock ≠ some b := fun hq => by
  obtain ⟨c1, e1⟩ := s.put.obj b hp
  obtain ⟨c2, e2⟩ := s.ints.obj b hq
  rw [e1] at e2
  injection e2 with e2
  injection e2 with _ e2
  exact absurd e2 (by decide)
/-- The row of records has grown. -/
theorem JM.growP (P : P15J W Jn) (s : JM Jn W w lo h N d F1 F2 a1 J1 o2 p l q es) {p' : Value} {l' : List (Value × List Int)} (own : Put W w' lo p' l') (hg : w.grownBy w' p.ownBlock) (hw : p'.ownBlock = p.ownBlock ∨ p'.ownBlock = some w.heap.size) : JM Jn W w' lo h N d F1 F2 a1 J1 o2 p' l' q es := by
  have hlt := s.box.lt
  have t : Turns TS lo w w' := (Turns.refl TS lo w).grown hg (fun k hk => by
    obtain ⟨cur, hc⟩ := s.put.obj k hk
    exact ⟨(s.put.block k hk).1, _, hc, show TS (.cells _ _) from rfl⟩) (Nat.le_of_lt (Nat.lt_of_le_of_lt hlt.1 hlt.2))
  refine { s with box := s.box.turnsG t (TS_no (by decide)) (TS_no (by decide)) (TS_no (by decide)) (fun _ _ h => h), hand := t.block _ _ s.hand (TS_no (by decide) _), one := ?_, two := ?_, below := s.below.trans (t.below.mono s.hlo), put := own, ints := ?_, offP := ?_ }
  · exact P.keep s.one fun b k => hg.block b (P.lt s.one b k).2 fun e => (s.offP b e.symm).1 k
  · exact fun x hx => P.keep (s.two x hx) fun b k => hg.block b (P.lt (s.two x hx) b k).2 fun e => (s.offP b e.symm).2 k
  · intro y hy
    rcases hw with hw | hw
    · rw [hw] at hy
      exact s.offP y hy
    · rw [hw] at hy
      injection hy with hy
      subst hy
      exact ⟨fun k => Nat.lt_irrefl _ (P.lt s.one _ k).2, fun k => Nat.lt_irrefl _ (s.second P _ k).1⟩
  · exact s.ints.keep fun b k => hg.block b (s.ints.block b k).2 fun e => s.pq e.symm k
/-- The row of numbers has grown. -/
theorem JM.growQ (P : P15J W Jn) (s : JM Jn W w lo h N d F1 F2 a1 J1 o2 p l q es) {q' : Value} {es' : List Int} (own : OwnI w' lo q' es') (hg : w.grownBy w' q.ownBlock) (hw : q'.ownBlock = q.ownBlock ∨ ∃ g, q'.ownBlock = some g ∧ w.heap.size ≤ g) : JM Jn W w' lo h N d F1 F2 a1 J1 o2 p l q' es' := by
  have hlt := s.box.lt
  have t : Turns TI lo w w' := (Turns.refl TI lo w).grown hg (fun k hk => by
    obtain ⟨cur, hc⟩ := s.ints.obj k hk
    exact ⟨(s.ints.block k hk).1, _, hc, show TI (.cells _ _) from rfl⟩) (Nat.le_of_lt (Nat.lt_of_le_of_lt hlt.1 hlt.2))
  refine { s with box := s.box.turnsG t (TI_no (by decide)) (TI_no (by decide)) (TI_no (by decide)) (fun _ _ h => h), hand := t.block _ _ s.hand (TI_no (by decide) _), one := ?_, two := ?_, below := s.below.trans (t.below.mono s.hlo), put := ?_, ints := own, offQ := ?_ }
  · exact P.keep s.one fun b k => hg.block b (P.lt s.one b k).2 fun e => (s.offQ b e.symm).1 k
  · exact fun x hx => P.keep (s.two x hx) fun b k => hg.block b (P.lt (s.two x hx) b k).2 fun e => (s.offQ b e.symm).2 k
  · exact s.put.keep fun b k => hg.block b (s.put.block b k).2 fun e => s.pq k e.symm
  · intro y hy
    rcases hw with hw | ⟨g, hw, hgs⟩
    · rw [hw] at hy
      exact s.offQ y hy
    · rw [hw] at hy
      injection hy with hy
      subst hy
      exact ⟨fun k => by have := (P.lt s.one _ k).2; omega, fun k => by have := (s.second P _ k).1; omega⟩
/-- The journal, and its disk, have turned. -/
theorem JM.turn (P : P15J W Jn) (s : JM Jn W w lo h N d F1 F2 a1 J1 o2 p l q es) {F : List Nat} {J : JS} {d' : Dk} {N' : Nat} (hg : J.g = J1.g) (hj : Jn w' F a1 J) (hF : ∀ b ∈ F, b ∈ F1 ∨ w.heap.size ≤ b) (hbx : BoxAt w' ⟨lo, fun y => y ∈ F ∨ y ∈ F2⟩ J1.g d' N') (ht : JTurns F1 W.heap.size w w') (hB : d'.allB) (hok : J.ok d') : JM Jn W w' lo h N' d' F F2 a1 J o2 p l q es :=
  { box := by rw [hg]; exact hbx
    hand := by rw [hg]; exact ht.block _ _ s.hand hand_TB s.nh.1
    one := hj
    two := fun x hx => P.keep (s.two x hx) fun b k => by
      obtain ⟨cur, t, fr, e, q1, q2⟩ := P.form (s.two x hx) b k
      exact (ht.block b _ e (fun hT => by rcases hT with hT | hT; exact q1 hT; exact q2 hT) (fun k1 => s.apart b k1 k)).trans e.symm
    two0 := s.two0
    apart := fun b k1 k2 => by
      rcases hF b k1 with k3 | k3
      · exact s.apart b k3 k2
      · exact absurd (s.second P b k2).1 (by omega)
    nh := ⟨fun k => by
      rcases hF _ k with k3 | k3
      · exact s.nh.1 k3
      · exact absurd (lt_of_block s.hand) (by omega), s.nh.2⟩
    below := s.below.trans ht.below
    hlo := s.hlo
    allB := hB
    ok := hok
    put := s.put.jturns ht fun y hy => (s.offP y hy).1
    offP := fun y hy => ⟨fun k => by
      rcases hF _ k with k3 | k3
      · exact (s.offP y hy).1 k3
      · exact absurd (s.put.block y hy).2 (by omega), (s.offP y hy).2⟩
    ints := s.ints.jturns ht fun y hy => (s.offQ y hy).1
    offQ := fun y hy => ⟨fun k => by
      rcases hF _ k with k3 | k3
      · exact (s.offQ y hy).1 k3
      · exact absurd (s.ints.block y hy).2 (by omega), (s.offQ y hy).2⟩ }
/-- The disk alone has turned. -/
theorem JM.turnD (P : P15J W Jn) (s : JM Jn W w lo h N d F1 F2 a1 J1 o2 p l q es) {d' : Dk} {N' B' : Nat} (hlB : W.heap.size ≤ B') (hbx : BoxAt w' ⟨lo, fun y => y ∈ F1 ∨ y ∈ F2⟩ J1.g d' N') (ht : Turns TB B' w w') (hB : d'.allB) (hm : d'.many = d.many) : JM Jn W w' lo h N' d' F1 F2 a1 J1 o2 p l q es := by
  refine s.turn P rfl ?_ (fun b k => .inl k) hbx ⟨ht.below.mono hlB, fun b o e n _ => ht.block b o e n⟩ hB (s.ok.disk hm)
  exact P.keep s.one fun b k => by
    obtain ⟨cur, t, fr, e, q1, q2⟩ := P.form s.one b k
    exact (ht.block b _ e (fun hT => by rcases hT with hT | hT; exact q1 hT; exact q2 hT)).trans e.symm
/-- An append. -/
theorem JM.app (P : P15J W Jn) (s : JM Jn W w lo h N d F1 F2 a1 J1 o2 p l q es) {x : Option Addr} {n c : Nat} {r : List Int} (hi : InB w x r) (hB : isB r) (hn : r.length = n) (h1 : n ≤ c) (h2 : c ≤ maxLen) (h3 : x = none → c = 0 ∧ r = []) (hN : N ≤ 549755813888) :
    Calls Tryd.prog 22 #[.pointer (some ⟨a1, 0, none⟩), .slice x n c] w fun en w' => ((J1.dead = true ∨ J1.room < (n : Int)) ∧ en = .returned (errV J1.refE) ∧ JM Jn W w' lo h N d F1 F2 a1 J1 o2 p l q es) ∨
      (J1.dead = false ∧ (n : Int) ≤ J1.room ∧ en = .returned (errV (J1.app r d).1) ∧ ∃ F, JM Jn W w' lo h (N + 8 * J1.many) (J1.app r d).2 F F2 a1 (J1.more r (J1.app r d).1) o2 p l q es) := by
  by_cases hr : J1.dead = true ∨ J1.room < (n : Int)
  · refine (P.refuse F1 a1 J1 x n c r w d s.below s.one s.ok hi hB hn h1 h2 h3 hr).mono ?_
    rintro en w' ⟨rfl, hb⟩
    exact .inl ⟨hr, rfl, s.then_ P hb⟩
  · have hd : J1.dead = false := by
      cases hh : J1.dead with
      | false => rfl
      | true => exact absurd (.inl hh) hr
    have hro : (n : Int) ≤ J1.room := by
      have : ¬ J1.room < (n : Int) := fun h => hr (.inr h)
      omega
    have hl : (r.length : Int) ≤ J1.room := by rw [hn]; exact hro
    have hm : 8 * J1.many ≤ 524288 := by have := s.ok.fits; have := s.ok.small; omega
    refine (P.append F1 a1 J1 x n c r w lo N (· ∈ F2) d s.below s.one s.ok s.hlo (fun y k => (s.second P y k).1) s.box (by omega) hi hB hn h1 h2 h3 hd hro).mono ?_
    rintro en w' ⟨rfl, F, hj, hF, hbx, ht⟩
    refine .inr ⟨hd, hro, rfl, F, s.turn P ?_ hj hF hbx ht (JS.app_allB s.ok s.allB hB) (s.ok.next (JS.app_many J1 r d) hB hl _)⟩
    unfold JS.more
    split <;> rfl
/-- A sync of a journal that lives. -/
theorem JM.sync (P : P15J W Jn) (s : JM Jn W w lo h N d F1 F2 a1 J1 o2 p l q es) (hd : J1.dead = false) (hN : N ≤ 549755813888) (hm : d.sync.many = d.many) :
    Calls Tryd.prog 31 #[.pointer (some ⟨a1, 0, none⟩)] w fun en w' => en = .returned (errV d.syncE) ∧ ∃ F, JM Jn W w' lo h N d.sync F F2 a1 { J1 with dead := decide (d.syncE ≠ 0) } o2 p l q es := by
  refine (P.sync F1 a1 J1 w lo N (· ∈ F2) d s.below s.one s.ok s.hlo (fun y k => (s.second P y k).1) s.box (by omega) hd).mono ?_
  rintro en w' ⟨rfl, F, hj, hF, hbx, ht⟩
  have hok := s.ok.disk hm
  exact ⟨rfl, F, s.turn P rfl hj hF hbx ht s.allB.sync ⟨hok.ep, hok.fits, hok.small, hok.len, hok.rows⟩⟩
theorem JM.disk (P : P15J W Jn) (s : JM Jn W w lo h N d F1 F2 a1 J1 o2 p l q es) :
    Calls Tryd.prog 20 #[.pointer (some ⟨h, 0, none⟩)] w fun en w' => ∃ hd, en = .returned (.pointer (some ⟨hd, 0, none⟩)) ∧ w'.heap[hd]? = some (.cells #[.pointer (some ⟨J1.g, 0, none⟩)] 86) ∧ Below w.heap.size w w' ∧ JM Jn W w' lo h N d F1 F2 a1 J1 o2 p l q es := by
  refine (disk_any h J1.g w (row_cells s.hand 0)).mono ?_
  rintro en w' ⟨rfl, rfl⟩
  exact ⟨_, rfl, heap_alloc_new _ _, below1 _ _, s.then_ P (below1 _ _)⟩
/-- The area is read: whatever is found there. -/
theorem JM.read (P : P15J W Jn) (s : JM Jn W w lo h N d F1 F2 a1 J1 o2 p l q es) {hd : Nat} (hh : w.heap[hd]? = some (.cells #[.pointer (some ⟨J1.g, 0, none⟩)] 86)) (hE : jRdE d J1.fr J1.many J1.e = 0) :
    Calls Tryd.prog 25 #[.pointer (some ⟨hd, 0, none⟩), .int .i64 (J1.fr : Int), .int .i64 (J1.many : Int), .int .i64 J1.e] w fun en w' => ∃ a c, en = .returned (.tuple #[.slice a (jRdL d J1.fr J1.many J1.e).length c, .nilIface]) ∧ InRR w' a (jRdL d J1.fr J1.many J1.e) ∧ Below w.heap.size w w' := by
  have h1 := s.ok.fits
  have h2 := s.ok.small
  have h3 := s.ok.ep
  unfold jOk at h3
  refine (P.read hd J1.g (J1.fr : Int) (J1.many : Int) J1.e w _ N d s.below hh s.box (s.allB.byte s.box.ok) h2 (by unfold okInt; omega) (by unfold okInt; omega) (by unfold okInt; omega)).mono ?_
  rintro en w' ⟨v, rs, rfl, e1, e2, e3, e4⟩
  obtain ⟨a, c, rfl, hi⟩ := e3.inRR e2
  rw [e1] at hi
  refine ⟨a, c, ?_, hi, e4⟩
  rw [hE, errV_zero, ← e1, List.length_map]
end
end Go.Proofs.YtophhnolnlbecaaDoor
namespace Go.Proofs.YtophhnolnlbecaaDoor
open Go.RowKit
set_option maxRecDepth 100000

set_option maxHeartbeats 4000000 in
theorem area_any (h g N : Nat) (d : Dk) (B : Base) (wo : World) (hh : wo.heap[h]? = some (.cells #[.pointer (some ⟨g, 0, none⟩)] 79)) (hb : BoxAt wo B g d N) (hm : 32 ≤ d.many) :
    Calls Tryd.prog 26 #[.pointer (some ⟨h, 0, none⟩)] wo fun e w' => ∃ v, e = .returned v ∧ OwnB w' wo.heap.size v (jArea d 8 24) ∧ Below wo.heap.size wo w' := by
  have HB := Lib.hid (And.intro hh (And.intro hb hm))
  clear hh hb hm
  go_enter Tryd.func26, Tryd.ntmps26
  go_wp2_with fail
  go_loopw [3, 4] (fun bv i wr => ∃ j : Nat, j ≤ 24 ∧ i = .int .i64 ((8 + j : Nat) : Int) ∧ Hid (OwnB wr wo.heap.size bv (catF (fun q => d.look (8 + q)) 0 j) ∧ Below wo.heap.size wo wr)) (fun _ i _ => 32 - (intOf i).toNat)
  case atStart => exact ⟨0, by omega, rfl, Lib.hid ⟨OwnB.nil _ _, Below.refl _ _⟩⟩
  case round =>
    rename_i bv iv wr
    obtain ⟨j, hj, rfl, HK⟩ := hrel
    by_cases hlt : j < 24
    · have j1 : ((8 + j : Nat) : Int) < 32 := by omega
      have HS := Lib.hid (sector_any h g (8 + j) wr B N d (by have := HB.out.2.2; omega) (row_cells ((HK.out.2.block _ (lt_of_block HB.out.1)).trans HB.out.1) 0) (HB.out.2.1.then_ HK.out.2))
      have HLn := Lib.hid (show (catF (fun q => d.look (8 + q)) 0 j).length = 512 * j from catF_len (fun q => HB.out.2.1.ok.look_len _) j 0)
      go_wp2_with fail
      refine HS.out.mono ?_
      rintro e w2 ⟨v, rfl, hr, b2⟩
      have hrl := HB.out.2.1.ok.look_len (8 + j)
      obtain ⟨gv, cv, rfl, hcv, hcm⟩ := hr.form
      have HR := Lib.hid (And.intro hr.1.inB (And.intro hrl (And.intro (HK.out.1.then_ b2) (below_then HK.out.2 b2))))
      rw [hrl]
      clear hr b2 hrl HS
      go_wp2_with (first
        | (at_builtin; refine apR rfl (.tmp 13) (.tmp 14) rfl wo.heap.size _ _ rfl HR.out.2.2.1 (some ⟨gv, 0, none⟩) 512 cv _ rfl HR.out.2.1 HR.out.1 (fun e => by cases e) (by rw [HLn.out]; omega) HR.out.2.2.2.size ?_; intro v3 w3 hg3; have HG := Lib.hid (And.intro hg3.own (hg3.below HR.out.2.2.1 HR.out.2.2.2 (Nat.le_refl _) HR.out.2.2.2.size)); clear hg3)
        | fail)
      go_roundw
      case rel => exact ⟨j + 1, by omega, by go_num, Lib.hid ⟨by
        have h := HG.out.1
        rw [catF_snoc, Nat.zero_add]
        exact h, HG.out.2⟩⟩
      case measure => simp [intOf]; omega
    · obtain rfl : j = 24 := by omega
      clear hlt
      go_wp2_with fail
      go_ret
      exact ⟨_, rfl, HK.out.1, HK.out.2⟩
end Go.Proofs.YtophhnolnlbecaaDoor
