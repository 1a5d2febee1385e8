/- Rows of ints: how they lie, how they grow, as steps of a walk. No statement is proved here. -/
import Derived.Test.YtonjapphhbhcpaaDoorJ15
namespace Go.Proofs.YtonjapphhbhcpaaDoor
open Go.RowKit
set_option maxRecDepth 100000

/-- A row of ints stands at that place: its elements, as numbers. -/
def InI (w : World) (a : Option Addr) (l : List Int) : Prop := ∀ i x, l[i]? = some x → ∃ b o, a = some ⟨b, o, none⟩ ∧ w.cell? ⟨b, o + i, none⟩ = some (.int .i64 x)
theorem InI.then_ {w w' : World} {a : Option Addr} {l : List Int} (h : InI w a l) (hb : Below w.heap.size w w') : InI w' a l := fun i x hx => by
  obtain ⟨b, o, ha, hc⟩ := h i x hx
  exact ⟨b, o, ha, (hb.cell (cell_lt hc)).trans hc⟩
theorem InI.one {w : World} {a : Option Addr} {l : List Int} (h : InI w a l) {i : Nat} (hi : i < l.length) : ∃ b o x, a = some ⟨b, o, none⟩ ∧ l[i]? = some x ∧ w.cell? ⟨b, o + i, none⟩ = some (.int .i64 x) := by
  obtain ⟨b, o, ha, hc⟩ := h i _ (List.getElem?_eq_getElem hi)
  exact ⟨b, o, _, ha, List.getElem?_eq_getElem hi, hc⟩
theorem InI.nil (w : World) (a : Option Addr) : InI w a [] := fun i x h => by simp at h
/-- Bytes as what stands in their cells. -/
def itV (l : List Int) : List Value := l.map (Value.int .i64)
theorem info_int : (Tryd.prog.info? 3).map (fun i => (i.zero, i.size, i.bytes)) = some (some (.int .i64 0), 1, 8) := by kernel_rfl
theorem itV_append (a b : List Int) : itV (a ++ b) = itV a ++ itV b := List.map_append
theorem itV_len (a : List Int) : (itV a).length = a.length := List.length_map _
theorem itV_one (a : List Int) : ∀ u ∈ itV a, u.oneCell' = true := by
  intro u hu
  obtain ⟨x, _, rfl⟩ := List.mem_map.1 hu
  rfl
/-- A row of ints that a call owns: from block B on, so many. -/
def OwnI (w : World) (B : Nat) (v : Value) (l : List Int) : Prop := w.ownsRow B 3 1 v l.length (itV l)
theorem OwnI.nil (w : World) (B : Nat) : OwnI w B (.slice none 0 0) [] := World.ownsRow_nil _ _ _ _
theorem OwnI.alloc {w : World} {B : Nat} {v : Value} {l : List Int} (h : OwnI w B v l) (o : Obj) : OwnI (w.alloc o) B v l := World.ownsRow.alloc h o
theorem OwnI.drew {w : World} {B : Nat} {v : Value} {l : List Int} (h : OwnI w B v l) : OwnI w.drew B v l := h
theorem OwnI.block {w : World} {B : Nat} {v : Value} {l : List Int} (h : OwnI w B v l) : ∀ g, v.ownBlock = some g → B ≤ g ∧ g < w.heap.size := World.ownsRow.lt h
theorem OwnI.keep {w w' : World} {B : Nat} {v : Value} {l : List Int} (h : OwnI w B v l) (hb : ∀ g, v.ownBlock = some g → w'.heap[g]? = w.heap[g]?) : OwnI w' B v l := by
  obtain ⟨h1, h2⟩ := h
  refine ⟨h1, ?_⟩
  rcases h2 with h2 | ⟨g, cap, cur, hv, hB, hg, hrest⟩
  · exact .inl h2
  · refine .inr ⟨g, cap, cur, hv, hB, ?_, hrest⟩
    rw [hb g (by rw [hv]; rfl)]
    exact hg
theorem OwnI.then_ {w w' : World} {B : Nat} {v : Value} {l : List Int} (h : OwnI w B v l) (hb : Below w.heap.size w w') : OwnI w' B v l := h.keep fun g hg => hb.block g (h.block g hg).2
theorem OwnI.base {w : World} {B B' : Nat} {v : Value} {l : List Int} (h : OwnI w B v l) (hB : B' ≤ B) : OwnI w B' v l := by
  obtain ⟨h1, h2⟩ := h
  refine ⟨h1, ?_⟩
  rcases h2 with h2 | ⟨g, cap, cur, hv, hb, hrest⟩
  · exact .inl h2
  · exact .inr ⟨g, cap, cur, hv, by omega, hrest⟩
/-- Its shape. -/
theorem OwnI.shape {w : World} {B : Nat} {v : Value} {l : List Int} (h : OwnI w B v l) : ∃ a c, v = .slice a l.length c ∧ InI w a l ∧ (a = none → c = 0 ∧ l = []) ∧ l.length ≤ c ∧ c ≤ maxLen := by
  have h0 := h
  obtain ⟨h1, h2⟩ := h
  rcases h2 with ⟨hv, h2⟩ | ⟨g, cap, cur, hv, hb, hg, hle, hcm, hrest⟩
  · have : l = [] := List.eq_nil_of_length_eq_zero h2
    subst this
    exact ⟨none, 0, hv, InI.nil _ _, fun _ => ⟨rfl, rfl⟩, by simp, by simp⟩
  · refine ⟨some ⟨g, 0, none⟩, cap, hv, fun i x hx => ⟨g, 0, rfl, ?_⟩, fun h => (by cases h), hle, hcm⟩
    subst hv
    have hi : i < l.length := lt_of_get hx
    have h3 := World.ownsRow.cellAt h0 i (by omega)
    rw [Nat.zero_add, h3, itV, List.getElem?_map, hx]
    rfl
theorem OwnI.lit (w : World) (bs : List Int) (hm : bs.length ≤ maxLen) : OwnI (w.alloc (.cells (itV bs).toArray 3)) w.heap.size (.slice (some ⟨w.heap.size, 0, none⟩) bs.length bs.length) bs := by
  have h := World.ownsRow_lit (base := w.heap.size) (size := 1) (e := 3) w (itV bs).toArray bs.length (Nat.le_refl _) hm (by simp [itV])
  simpa [OwnI] using h
/-- A row that was appended to: only it, and what is new, has turned. -/
structure GrewI (B : Nat) (w w' : World) (v v' : Value) (l' : List Int) : Prop where
  own : OwnI w' B v' l'
  grow : w.grownBy w' v.ownBlock
  at_ : v'.ownBlock = v.ownBlock ∨ ∃ g, v'.ownBlock = some g ∧ w.heap.size ≤ g
theorem GrewI.refl {B : Nat} {w : World} {v : Value} {l : List Int} (h : OwnI w B v l) : GrewI B w w v v l := ⟨h, World.grownBy.refl _ _, .inl rfl⟩
theorem GrewI.trans {B B' : Nat} {w w1 w2 : World} {v v1 v2 : Value} {l1 l2 : List Int} (h : GrewI B' w w1 v v1 l1) (k : GrewI B w1 w2 v1 v2 l2) : GrewI B w w2 v v2 l2 := by
  refine ⟨k.own, ⟨k.grow.os.trans h.grow.os, k.grow.tape.trans h.grow.tape, k.grow.output.trans h.grow.output, Nat.le_trans h.grow.size k.grow.size, fun i hi hn => ?_⟩, ?_⟩
  · refine (k.grow.block i (Nat.lt_of_lt_of_le hi h.grow.size) fun e => ?_).trans (h.grow.block i hi hn)
    rcases h.at_ with h1 | ⟨g, h1, h2⟩
    · exact hn (e.trans h1)
    · rw [h1] at e; injection e with e; omega
  · rcases k.at_ with k1 | ⟨g, k1, k2⟩
    · rcases h.at_ with h1 | ⟨g, h1, h2⟩
      · exact .inl (k1.trans h1)
      · exact .inr ⟨g, k1.trans h1, h2⟩
    · exact .inr ⟨g, k1, Nat.le_trans h.grow.size k2⟩
theorem GrewI.pre {B : Nat} {w w1 w2 : World} {v v2 : Value} {l2 : List Int} (h : Below w.heap.size w w1) (k : GrewI B w1 w2 v v2 l2) : GrewI B w w2 v v2 l2 := by
  refine ⟨k.own, ⟨k.grow.os.trans h.os, k.grow.tape.trans h.tape, k.grow.output.trans h.output, Nat.le_trans h.size k.grow.size, fun i hi hn => (k.grow.block i (Nat.lt_of_lt_of_le hi h.size) hn).trans (h.block i hi)⟩, ?_⟩
  rcases k.at_ with k1 | ⟨g, k1, k2⟩
  · exact .inl k1
  · exact .inr ⟨g, k1, Nat.le_trans h.size k2⟩
theorem GrewI.post {B : Nat} {w w1 w2 : World} {v v1 : Value} {l1 : List Int} (h : GrewI B w w1 v v1 l1) (k : Below w1.heap.size w1 w2) : GrewI B w w2 v v1 l1 :=
  ⟨h.own.then_ k, ⟨k.os.trans h.grow.os, k.tape.trans h.grow.tape, k.output.trans h.grow.output, Nat.le_trans h.grow.size k.size, fun i hi hn => (k.block i (Nat.lt_of_lt_of_le hi h.grow.size)).trans (h.grow.block i hi hn)⟩, h.at_⟩
theorem GrewI.below {B C : Nat} {a w w' : World} {v v' : Value} {l l' : List Int} (h : GrewI B w w' v v' l') (hv : OwnI w B v l) (ha : Below C a w) (hC : C ≤ B) (hB : B ≤ w.heap.size) : Below C a w' :=
  ha.grown h.grow (Nat.le_trans hC hB) (fun g hg => Nat.le_trans hC (hv.block g hg).1)
theorem GrewI.size {B : Nat} {w w' : World} {v v' : Value} {l' : List Int} (h : GrewI B w w' v v' l') : w.heap.size ≤ w'.heap.size := h.grow.size
/-- Another block is as it was. -/
theorem GrewI.row {B : Nat} {w w' : World} {v v' : Value} {l' : List Int} (h : GrewI B w w' v v' l') {g : Nat} {o : Obj} (hg : w.heap[g]? = some o) (hn : ∀ b, v.ownBlock = some b → b ≠ g) : w'.heap[g]? = some o := by
  have hlt : g < w.heap.size := by
    rcases Nat.lt_or_ge g w.heap.size with h | h
    · exact h
    · rw [Array.getElem?_eq_none h] at hg; cases hg
  rw [h.grow.block g hlt (fun e => hn g e.symm rfl)]
  exact hg
theorem GrewI.off {B : Nat} {w w' : World} {v v' : Value} {l' : List Int} (h : GrewI B w w' v v' l') {g : Nat} (hg : g < w.heap.size) (hn : ∀ b, v.ownBlock = some b → b ≠ g) : ∀ b, v'.ownBlock = some b → b ≠ g := by
  intro b hb
  rcases h.at_ with h1 | ⟨k, h1, h2⟩
  · exact hn b (h1 ▸ hb)
  · rw [h1] at hb; injection hb with hb; omega
/-- A box that was made behind the row, and what is then appended. -/
theorem OwnI.behind {B : Nat} {w : World} {v : Value} {l : List Int} (h : OwnI w B v l) : ∀ b, v.ownBlock = some b → b ≠ w.heap.size := fun b hb e => by have := (h.block b hb).2; omega
/-- The runs. -/
theorem run_apI (w : World) (ty : TypeId) (B : Nat) (v : Value) (l : List Int) (hown : OwnI w B v l) (ad : Addr) (n c : Nat) (bs : List Int) (hn : bs.length = n) (hg : ∀ j u, (itV bs)[j]? = some u → w.cell? (ad.add j) = some u) (hl : l.length + n ≤ 17592186044416) (hB : B ≤ w.heap.size) :
    ∃ v' w', (Builtin.append_ #[59, 59] ty #[v, .slice (some ad) n c]).run Tryd.prog w = .ok v' w' ∧ GrewI B w w' v v' (l ++ bs) := by
  subst hn
  obtain ⟨i0, hi0, hz0, hz1, hz2⟩ := info_parts info_int
  obtain ⟨v', w', hr, h1, h2, -, h4⟩ := run_append_own_at (P := Tryd.prog) w B 59 ty 3 i0 _ 1 8 Tryd.underlying59 hi0 hz0 hz1 hz2 rfl (by decide) v l.length (itV l) hown ad bs.length c (itV bs) (by rw [itV_len]; omega) hg (itV_one bs) (by unfold maxLen; omega) (by omega) hB
  refine ⟨v', w', hr, ?_, h2, ?_⟩
  · unfold OwnI
    rw [List.length_append, itV_append]
    exact h1
  · rcases h4 with h4 | h4
    · exact .inl h4
    · exact .inr ⟨_, h4, Nat.le_refl _⟩
theorem run_apIR (w : World) (ty : TypeId) (B : Nat) (v : Value) (l : List Int) (hown : OwnI w B v l) (b : Option Addr) (n c : Nat) (bs : List Int) (hn : bs.length = n) (hb : InI w b bs) (h0 : b = none → c = 0 ∧ bs = []) (hl : l.length + n ≤ 17592186044416) (hB : B ≤ w.heap.size) :
    ∃ v' w', (Builtin.append_ #[59, 59] ty #[v, .slice b n c]).run Tryd.prog w = .ok v' w' ∧ GrewI B w w' v v' (l ++ bs) := by
  cases b with
  | none =>
    obtain ⟨rfl, rfl⟩ := h0 rfl
    subst hn
    obtain ⟨i0, hi0, hz0, hz1, hz2⟩ := info_parts info_int
    exact ⟨v, w, run_append_owned_none (P := Tryd.prog) (w := w) B 59 ty 3 i0 1 Tryd.underlying59 hi0 v l.length (itV l) hown, by simpa using GrewI.refl hown⟩
  | some ad =>
    refine run_apI w ty B v l hown ad n c bs hn (fun j u hj => ?_) hl hB
    rw [itV, List.getElem?_map, Option.map_eq_some_iff] at hj
    obtain ⟨y, hy, rfl⟩ := hj
    obtain ⟨bb, oo, e, hc⟩ := hb j y hy
    injection e with e
    subst e
    rw [show (⟨bb, oo, none⟩ : Addr).add j = ⟨bb, oo + j, none⟩ by unfold Addr.add; split <;> simp_all]
    exact hc
/-- 'append(b, x, y ..)': the ints lie in a block just made. -/
theorem apIL {ops : Array Oper} {rest : List Oper} {o : Oper} {a : Act} {w : World} {Q : Exit → Act → World → Prop} (cs : Array Value) (hgd : o.guard = none) (s x : Operand)
    (ho : o.op = .call { callee := .builtin .append, args := #[s, x], argTypes := #[59, 59] }) (B : Nat) (v : Value) (l : List Int) (hs : a.eval s = v) (hown : OwnI w B v l)
    (bs : List Int) (g n c : Nat) (hx : a.eval x = .slice (some ⟨g, 0, none⟩) n c) (hg : g = w.heap.size) (hc : cs = (itV bs).toArray) (hn : bs.length = n) (hl : l.length + n ≤ 17592186044416) (hB : B ≤ w.heap.size)
    (h : ∀ v' w', GrewI B w w' v v' (l ++ bs) → wpList Tryd.prog ops Q rest (a.put o.dst v') w') : wpList Tryd.prog ops Q (o :: rest) a (w.alloc (.cells cs 3)) := by
  subst hc hg
  obtain ⟨v', w', hr, h1⟩ := run_apI (w.alloc (.cells (itV bs).toArray 3)) o.type B v l (hown.alloc _) ⟨w.heap.size, 0, none⟩ n c bs hn (news_at w _ _ _ rfl) hl (Nat.le_trans hB (below1 _ _).size)
  exact wpList_ap hgd s x _ _ ho _ _ v' w' hs hx hr (h v' w' (h1.pre (below1 _ _)))
theorem stIL {ops : Array Oper} {o : Oper} {a : Act} {w : World} {K : Act → World → Prop} {Q : Exit → Act → World → Prop} {E : Prop} (cs : Array Value) (hgd : o.guard = none) (s x : Operand)
    (ho : o.op = .call { callee := .builtin .append, args := #[s, x], argTypes := #[59, 59] }) (B : Nat) (v : Value) (l : List Int) (hs : a.eval s = v) (hown : OwnI w B v l)
    (bs : List Int) (g n c : Nat) (hx : a.eval x = .slice (some ⟨g, 0, none⟩) n c) (hg : g = w.heap.size) (hc : cs = (itV bs).toArray) (hn : bs.length = n) (hl : l.length + n ≤ 17592186044416) (hB : B ≤ w.heap.size)
    (h : ∀ v' w', GrewI B w w' v v' (l ++ bs) → K (a.put o.dst v') w') : if Region.wanted o (yielded ops a.tmps) = true then Oper.wp Tryd.prog o a (w.alloc (.cells cs 3)) K Q else E := by
  subst hc hg
  obtain ⟨v', w', hr, h1⟩ := run_apI (w.alloc (.cells (itV bs).toArray 3)) o.type B v l (hown.alloc _) ⟨w.heap.size, 0, none⟩ n c bs hn (news_at w _ _ _ rfl) hl (Nat.le_trans hB (below1 _ _).size)
  exact step_ap hgd s x _ _ ho _ _ v' w' hs hx hr (h v' w' (h1.pre (below1 _ _)))
theorem wpList_apI {ops : Array Oper} {rest : List Oper} {o : Oper} {a : Act} {w : World} {Q : Exit → Act → World → Prop} (hgd : o.guard = none) (s x : Operand)
    (ho : o.op = .call { callee := .builtin .append, args := #[s, x], argTypes := #[59, 59] }) (B : Nat) (v : Value) (l : List Int) (hs : a.eval s = v) (hown : OwnI w B v l)
    (ad : Addr) (n c : Nat) (bs : List Int) (hx : a.eval x = .slice (some ad) n c) (hn : bs.length = n) (hg : ∀ j u, (itV bs)[j]? = some u → w.cell? (ad.add j) = some u) (hl : l.length + n ≤ 17592186044416) (hB : B ≤ w.heap.size)
    (h : ∀ v' w', GrewI B w w' v v' (l ++ bs) → wpList Tryd.prog ops Q rest (a.put o.dst v') w') : wpList Tryd.prog ops Q (o :: rest) a w := by
  obtain ⟨v', w', hr, h1⟩ := run_apI w o.type B v l hown ad n c bs hn hg hl hB
  exact wpList_ap hgd s x _ _ ho _ _ v' w' hs hx hr (h v' w' h1)
/-- 'append(b, x...)', of a row that lies there, or of none. -/
theorem apIR {ops : Array Oper} {rest : List Oper} {o : Oper} {a : Act} {w : World} {Q : Exit → Act → World → Prop} (hgd : o.guard = none) (s x : Operand)
    (ho : o.op = .call { callee := .builtin .append, args := #[s, x], argTypes := #[59, 59] }) (B : Nat) (v : Value) (l : List Int) (hs : a.eval s = v) (hown : OwnI w B v l)
    (b : Option Addr) (n c : Nat) (bs : List Int) (hx : a.eval x = .slice b n c) (hn : bs.length = n) (hb : InI w b bs) (h0 : b = none → c = 0 ∧ bs = []) (hl : l.length + n ≤ 17592186044416) (hB : B ≤ w.heap.size)
    (h : ∀ v' w', GrewI B w w' v v' (l ++ bs) → wpList Tryd.prog ops Q rest (a.put o.dst v') w') : wpList Tryd.prog ops Q (o :: rest) a w := by
  obtain ⟨v', w', hr, h1⟩ := run_apIR w o.type B v l hown b n c bs hn hb h0 hl hB
  exact wpList_ap hgd s x _ _ ho _ _ v' w' hs hx hr (h v' w' h1)
theorem stIR {ops : Array Oper} {o : Oper} {a : Act} {w : World} {K : Act → World → Prop} {Q : Exit → Act → World → Prop} {E : Prop} (hgd : o.guard = none) (s x : Operand)
    (ho : o.op = .call { callee := .builtin .append, args := #[s, x], argTypes := #[59, 59] }) (B : Nat) (v : Value) (l : List Int) (hs : a.eval s = v) (hown : OwnI w B v l)
    (b : Option Addr) (n c : Nat) (bs : List Int) (hx : a.eval x = .slice b n c) (hn : bs.length = n) (hb : InI w b bs) (h0 : b = none → c = 0 ∧ bs = []) (hl : l.length + n ≤ 17592186044416) (hB : B ≤ w.heap.size)
    (h : ∀ v' w', GrewI B w w' v v' (l ++ bs) → K (a.put o.dst v') w') : if Region.wanted o (yielded ops a.tmps) = true then Oper.wp Tryd.prog o a w K Q else E := by
  obtain ⟨v', w', hr, h1⟩ := run_apIR w o.type B v l hown b n c bs hn hb h0 hl hB
  exact step_ap hgd s x _ _ ho _ _ v' w' hs hx hr (h v' w' h1)
theorem OwnI.only {w w' : World} {B : Nat} {v : Value} {l : List Int} {S : List Nat} (h : OwnI w B v l) (ho : Only S w w') (hS : ∀ b ∈ S, b < B) : OwnI w' B v l := h.keep fun g hg => ho.block g (h.block g hg).2 (fun hc => by have := hS _ hc; have := (h.block g hg).1; omega)
theorem OwnI.form {w : World} {B : Nat} {v : Value} {l : List Int} (h : OwnI w B v l) (hl : 1 ≤ l.length) : ∃ g c, v = .slice (some ⟨g, 0, none⟩) l.length c ∧ l.length ≤ c := by
  obtain ⟨g, c, rfl, -, -⟩ := World.ownsRow.form h hl
  refine ⟨g, c, rfl, ?_⟩
  obtain ⟨h1, h2⟩ := h
  rcases h2 with ⟨hv, _⟩ | ⟨g', cap, cur, hv, _, _, hle, _⟩
  · cases hv
  · injection hv with _ _ e; omega
theorem OwnI.set {w : World} {B g n c : Nat} {l : List Int} (h : OwnI w B (.slice (some ⟨g, 0, none⟩) n c) l) (j : Nat) (x : Int) : OwnI (w.setCell ⟨g, j, none⟩ (.int .i64 x)) B (.slice (some ⟨g, 0, none⟩) n c) (l.set j x) ∧ w.grownBy (w.setCell ⟨g, j, none⟩ (.int .i64 x)) (some g) := by
  have hn : n = l.length := by
    obtain ⟨h1, h2⟩ := h
    rcases h2 with ⟨hv, _⟩ | ⟨g', cap, cur, hv, _⟩
    · cases hv
    · injection hv
  subst hn
  obtain ⟨h1, h2⟩ := World.ownsRow.stored h j (.int .i64 x)
  refine ⟨?_, h2⟩
  unfold OwnI
  rw [List.length_set, itV, List.map_set]
  exact h1
theorem OwnI.at_ {w : World} {B g n c : Nat} {l : List Int} (h : OwnI w B (.slice (some ⟨g, 0, none⟩) n c) l) {j : Nat} {x : Int} (hx : l[j]? = some x) : w.cell? ⟨g, j, none⟩ = some (.int .i64 x) ∧ w.frozen? ⟨g, j, none⟩ = false := by
  have hn : n = l.length := by
    obtain ⟨h1, h2⟩ := h
    rcases h2 with ⟨hv, _⟩ | ⟨g', cap, cur, hv, _⟩
    · cases hv
    · injection hv
  subst hn
  refine ⟨?_, World.ownsRow.frozenAt h j⟩
  rw [World.ownsRow.cellAt h j (by have := lt_of_get hx; omega), itV, List.getElem?_map, hx]
  rfl
theorem OwnI.slice {w : World} {B n c : Nat} {a : Option Addr} {l : List Int} (h : OwnI w B (.slice a n c) l) : n = l.length := by
  obtain ⟨a', c', e, -⟩ := h.shape
  injection e
theorem OwnI.grown {w w' : World} {B : Nat} {v : Value} {l : List Int} {row : Option Nat} (h : OwnI w B v l) (hg : w.grownBy w' row) (hn : ∀ g, v.ownBlock = some g → row ≠ some g) : OwnI w' B v l :=
  h.keep fun g hg' => hg.block g (h.block g hg').2 (fun e => hn g hg' e.symm)
theorem OwnI.inI {w : World} {B g n c : Nat} {l : List Int} (h : OwnI w B (.slice (some ⟨g, 0, none⟩) n c) l) : InI w (some ⟨g, 0, none⟩) l := fun i x hx => ⟨g, 0, rfl, by rw [Nat.zero_add]; exact (h.at_ hx).1⟩
theorem InI.prefix_ {w : World} {a : Option Addr} {l m : List Int} (h : InI w a (l ++ m)) : InI w a l := fun i x hx => h i x (by rw [List.getElem?_append_left (lt_of_get hx)]; exact hx)
end Go.Proofs.YtonjapphhbhcpaaDoor
