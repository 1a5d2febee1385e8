/- What layer 11's statements call over bytes: Back. What layer 11's statements call over rows of bytes: Owned. What layer 11's statements call over rows of bytes: the contract of Owned. No statement is proved here. -/
import Derived.Test.YtophhnolnlbecaaDoorQ5
namespace Go.Proofs.YtophhnolnlbecaaDoor
open Go.RowKit
set_option maxRecDepth 100000

theorem drop_set {α : Type} {xs m : List α} {k : Nat} (h : xs.drop k = m.drop k) (y : α) : (xs.set k y).drop (k + 1) = m.drop (k + 1) := by
  have e := congrArg (List.drop 1) h
  rw [List.drop_drop, List.drop_drop] at e
  rw [← e, List.drop_set_of_lt (by omega)]
theorem drop_get {α : Type} {xs m : List α} {k : Nat} (h : xs.drop k = m.drop k) : xs[k]? = m[k]? := by
  have e := congrArg (·[0]?) h
  simpa using e
theorem InB.only {w w' : World} {S : List Nat} {a : Option Addr} {l : List Int} (h : InB w a l) (ho : Only S w w') (hS : ∀ b o, a = some (⟨b, o, none⟩ : Addr) → 1 ≤ l.length → b ∉ S) : InB w' a l := fun i x hx => by
  obtain ⟨b, o, e, hc⟩ := h i x hx
  refine ⟨b, o, e, ?_⟩
  have hb := ho.block b (cell_lt hc) (hS b o e (by have := lt_of_get hx; omega))
  rw [← hc]
  unfold World.cell?
  rw [hb]
set_option maxHeartbeats 4000000 in
theorem sback_any (B g : Nat) (a : Option Addr) (c n : Nat) (q : List Int) (w : World) (own : OwnB w B (.slice (some ⟨g, 0, none⟩) (n + 3) (n + 3)) (q ++ [201, 201, 201])) (ha : InB w a q) (hlow : ∀ b o, a = some (⟨b, o, none⟩ : Addr) → 1 ≤ q.length → b < g) (hn : q.length = n) (hl : n + 3 ≤ 140737488355328) :
    Calls Tryd.prog 12 #[.slice (some ⟨g, 0, none⟩) n (n + 3), .slice a n c] w fun e w' => e = .returned (.bool true) ∧ Only [g] w w' := by
  have HA := Lib.hid (And.intro ha (And.intro hlow hn))
  have HO := Lib.hid own
  clear ha hlow own
  go_enter Tryd.func12, Tryd.ntmps12
  go_wp2_with fail
  go_loopw [6, 7] (fun u i wr => ∃ (k : Nat) (xs : List Int), k ≤ n + 3 ∧ i = .int .i64 (k : Int) ∧ u = .bool true ∧ Hid (xs.drop k = (q ++ [201, 201, 201]).drop k ∧ OwnB wr B (.slice (some ⟨g, 0, none⟩) (n + 3) (n + 3)) xs ∧ Only [g] w wr)) (fun _ i _ => n + 3 - (intOf i).toNat)
  case atStart => exact ⟨0, _, by omega, rfl, rfl, rfl, HO.out, Only.refl _ _⟩
  case round =>
    obtain ⟨k, xs, hk, rfl, rfl, HK⟩ := hrel
    by_cases hlt : k < n + 3
    · by_cases hq : k < n
      · obtain ⟨b, o, x, rfl, hx, x0⟩ := (HA.out.1.only HK.2.2 (fun b o e h1 => by have := HA.out.2.1 b o e h1; simp; omega)).one (i := k) (by omega)
        have hy : xs[k]? = some x := by rw [drop_get HK.1, List.getElem?_append_left (by omega), hx]
        obtain ⟨y0, hf⟩ := HK.2.1.at_ hy
        have hxx : ((x : Int) == x) = true := by simp
        clear hx hy
        go_wp2_with fail
        go_roundw
        case rel =>
          have h := HK.2.1.set k (bits .xor .u8 x 33)
          exact ⟨k + 1, xs.set k (bits .xor .u8 x 33), by omega, by go_num, rfl, drop_set HK.1 _, h.1, HK.2.2.trans (Only.of_grown h.2)⟩
        case measure => simp [intOf]; omega
      · have hy : xs[k]? = some 201 := by
          rw [drop_get HK.1, List.getElem?_append_right (by omega)]
          have : k - q.length < 3 := by omega
          rcases (by omega : k - q.length = 0 ∨ k - q.length = 1 ∨ k - q.length = 2) with e | e | e <;> rw [e] <;> rfl
        obtain ⟨y0, hf⟩ := HK.2.1.at_ hy
        clear hy
        go_wp2_with fail
        go_roundw
        case rel =>
          have h := HK.2.1.set k 232
          exact ⟨k + 1, xs.set k 232, by omega, by go_num, rfl, drop_set HK.1 _, h.1, HK.2.2.trans (Only.of_grown h.2)⟩
        case measure => simp [intOf]; omega
    · go_wp2_with fail
      go_ret
      exact ⟨rfl, HK.2.2⟩
end Go.Proofs.YtophhnolnlbecaaDoor
namespace Go.Proofs.YtophhnolnlbecaaDoor
open Go.RowKit
set_option maxRecDepth 100000

/-- An append keeps what was there: it lies in the same block, or nothing old has changed. -/
theorem run_apK (w : World) (ty : TypeId) (B : Nat) (v : Value) (l : List Int) (hown : OwnB w B v l) (ad : Addr) (n c : Nat) (bs : List Int) (hn : bs.length = n) (hn0 : 0 < n) (hg : ∀ j u, (btV bs)[j]? = some u → w.cell? (ad.add j) = some u) (hl : l.length + n ≤ 140737488355328) (hB : B ≤ w.heap.size) :
    ∃ v' w', (Builtin.append_ #[22, 22] ty #[v, .slice (some ad) n c]).run Tryd.prog w = .ok v' w' ∧ Grew B w w' v v' (l ++ bs) ∧ ((∃ g, v'.ownBlock = some g ∧ v.ownBlock = some g) ∨ (Below w.heap.size w w' ∧ ∃ g, v'.ownBlock = some g ∧ w.heap.size ≤ g)) := by
  obtain ⟨v', w', hr, G⟩ := run_apB w ty B v l hown ad n c bs hn hg hl hB
  refine ⟨v', w', hr, G, ?_⟩
  obtain ⟨i0, hi0, hz0, hz1, hz2⟩ := info_parts info_byte
  have h2 := hown.2
  rcases h2 with ⟨hv, hz⟩ | ⟨g, cap, cur, hv, hb, hgc, hle, hcm, hsz, htk⟩
  · subst hv
    have hq := run_append_nil (P := Tryd.prog) (w := w) 22 ty 5 i0 _ Tryd.underlying22 hi0 hz0 ad n c (btV bs) (by rw [btV_len, hz1]; omega) hg hn0 (by omega) (by rw [hz2]; omega)
    rw [hr] at hq
    injection hq with e1 e2
    subst e1 e2
    exact .inr ⟨(Below.refl _ _).drew.alloc (Nat.le_refl _) _, _, rfl, Nat.le_refl _⟩
  · subst hv
    by_cases hroom : l.length + n ≤ cap
    · have hq := run_append_room (P := Tryd.prog) (w := w) 22 ty 5 i0 Tryd.underlying22 hi0 g l.length cap cur hgc ad n c (btV bs) (by rw [btV_len, hz1]; omega) hg (btV_one bs) hroom (by rw [btV_len, hz1, hsz]; omega)
      rw [hr] at hq
      injection hq with e1 e2
      subst e1
      exact .inl ⟨g, rfl, rfl⟩
    · have holds : ∀ j u, (btV l)[j]? = some u → w.cell? ((⟨g, 0, none⟩ : Addr).add j) = some u := World.ownsRow.cells hown (g := g) rfl
      have hq := run_append_grow (P := Tryd.prog) (w := w) 22 ty 5 i0 _ Tryd.underlying22 hi0 hz0 ⟨g, 0, none⟩ l.length cap (btV l) (by rw [btV_len, hz1]; omega) holds ad n c (btV bs) (by rw [btV_len, hz1]; omega) hg (by omega) (by omega) (by rw [hz2]; exact growslice_fits (by omega) (by omega))
      rw [hr] at hq
      injection hq with e1 e2
      subst e1 e2
      exact .inr ⟨(Below.refl _ _).drew.alloc (Nat.le_refl _) _, _, rfl, Nat.le_refl _⟩
/-- 'append(g, x)': as apL, with what is kept. -/
theorem apLK {ops : Array Oper} {rest : List Oper} {o : Oper} {a : Act} {w : World} {Q : Exit → Act → World → Prop} (cs : Array Value) (hgd : o.guard = none) (s x : Operand)
    (ho : o.op = .call { callee := .builtin .append, args := #[s, x], argTypes := #[22, 22] }) (B : Nat) (v : Value) (l : List Int) (hs : a.eval s = v) (hown : OwnB w B v l)
    (bs : List Int) (g n c : Nat) (hx : a.eval x = .slice (some ⟨g, 0, none⟩) n c) (hg : g = w.heap.size) (hc : cs = (btV bs).toArray) (hn : bs.length = n) (hn0 : 0 < n) (hl : l.length + n ≤ 140737488355328) (hB : B ≤ w.heap.size)
    (h : ∀ v' w', Grew B w w' v v' (l ++ bs) → ((∃ g, v'.ownBlock = some g ∧ v.ownBlock = some g) ∨ (Below w.heap.size w w' ∧ ∃ g, v'.ownBlock = some g ∧ w.heap.size ≤ g)) → wpList Tryd.prog ops Q rest (a.put o.dst v') w') : wpList Tryd.prog ops Q (o :: rest) a (w.alloc (.cells cs 5)) := by
  subst hc hg
  obtain ⟨v', w', hr, h1, h2⟩ := run_apK (w.alloc (.cells (btV bs).toArray 5)) o.type B v l (hown.alloc _) ⟨w.heap.size, 0, none⟩ n c bs hn hn0 (news_at w _ _ _ rfl) hl (Nat.le_trans hB (below1 _ _).size)
  refine wpList_ap hgd s x _ _ ho _ _ v' w' hs hx hr (h v' w' (h1.pre (below1 _ _)) ?_)
  rcases h2 with h2 | ⟨h2, g, h3, h4⟩
  · exact .inl h2
  · exact .inr ⟨below_then (below1 w _) h2, g, h3, Nat.le_trans (below1 w _).size h4⟩

structure RowsAt (w : World) (B R o : Nat) (rs : List (Value × List Int)) : Prop where
  cell : ∀ (i : Nat) (v : Value) (l : List Int), rs[i]? = some (v, l) → w.cell? ⟨R, o + i, none⟩ = some v
  own : ∀ (i : Nat) (v : Value) (l : List Int), rs[i]? = some (v, l) → OwnB w B v l
  off : ∀ (i : Nat) (v : Value) (l : List Int), rs[i]? = some (v, l) → v.ownBlock ≠ some R
  apart : ∀ (i j : Nat) (v : Value) (l : List Int) (v' : Value) (l' : List Int), rs[i]? = some (v, l) → rs[j]? = some (v', l') → i ≠ j → ∀ g, v.ownBlock = some g → v'.ownBlock ≠ some g
def markN (j : Nat) : Int := ((1 + j % 250 : Nat) : Int)
/-- A finished row: all marks, out of the way of what is still to be written. -/
def DoneAt (wr : World) (rs : List (Value × List Int)) (k : Nat) (vl : Value) (j : Nat) (v : Value) : Prop :=
  ∃ a n c l, v = .slice a n c ∧ (l : List Int).length = n ∧ n ≤ maxLen ∧ InB wr a l ∧ (∀ x ∈ l, x = markN (j / 2)) ∧ (∀ b o', a = some (⟨b, o', none⟩ : Addr) → 1 ≤ n → vl.ownBlock ≠ some b ∧ ∀ (i : Nat) (v' : Value) (l' : List Int), rs[i]? = some (v', l') → k ≤ i → v'.ownBlock ≠ some b)
structure OwnRel (w wr : World) (B R o : Nat) (rs : List (Value × List Int)) (k : Nat) (vl : Value) (L : List Value) : Prop where
  len : L.length = 2 * k
  row : wr.ownsRow w.heap.size 22 1 vl (2 * k) L
  done : ∀ (j : Nat) (v : Value), L[j]? = some v → DoneAt wr rs k vl j v
  rest : ∀ (i : Nat) (v : Value) (l : List Int), rs[i]? = some (v, l) → k ≤ i → OwnB wr B v l
  cell : ∀ (i : Nat) (v : Value) (l : List Int), rs[i]? = some (v, l) → wr.cell? ⟨R, o + i, none⟩ = some v
  below : Below B w wr
theorem OwnRel.start {w : World} {B R o : Nat} {rs : List (Value × List Int)} (h : RowsAt w B R o rs) : OwnRel w w B R o rs 0 (.slice none 0 0) [] :=
  ⟨rfl, World.ownsRow_nil _ _ _ _, fun j v h => by simp at h, fun i v l hi _ => h.own i v l hi, h.cell, Below.refl _ _⟩
/-- What a round does ahead of its append: only the row's own block has changed, and new ones. -/
structure MidRel (wr w2 : World) (B : Nat) (v : Value) (n : Nat) (m : Int) (vg : Value) (q : Nat) : Prop where
  own : OwnB w2 B vg (List.replicate (n + q) m)
  only : Only v.ownBlock.toList wr w2
  old : ∀ a n' c, v = .slice a n' c → InB w2 a (List.replicate n m)
  at_ : vg.ownBlock = v.ownBlock ∨ ∃ g, vg.ownBlock = some g ∧ wr.heap.size ≤ g

theorem OwnB.addr {w : World} {B n c : Nat} {a : Option Addr} {l : List Int} (h : OwnB w B (.slice a n c) l) : n = l.length ∧ (a = none ∨ ∃ g, a = some ⟨g, 0, none⟩) := by
  obtain ⟨h1, h2⟩ := h
  rcases h2 with ⟨hv, hz⟩ | ⟨g, cap, cur, hv, hb⟩
  · injection hv with e1 e2 e3
    exact ⟨by omega, .inl e1⟩
  · injection hv with e1 e2 e3
    exact ⟨e2, .inr ⟨g, e1⟩⟩
theorem OwnB.row {w : World} {B n c : Nat} {a : Option Addr} {l : List Int} (h : OwnB w B (.slice a n c) l) : InB w a l := by
  obtain ⟨a', c', e, hin, -⟩ := h.shape
  injection e with e
  subst e
  exact hin
theorem inB_grown {w w' : World} {g : Option Nat} {a : Option Addr} {l : List Int} (h : InB w a l) (hg : w.grownBy w' g) (hne : ∀ b o, a = some (⟨b, o, none⟩ : Addr) → 1 ≤ l.length → g ≠ some b) : InB w' a l := fun i x hx => by
  obtain ⟨b, o, e, hc⟩ := h i x hx
  refine ⟨b, o, e, ?_⟩
  exact hg.cell hc (fun e2 => hne b o e (by have := lt_of_get hx; omega) e2.symm)
/-- A mark more at the row's end. -/
theorem MidRel.next {wr w2 w3 : World} {B n q : Nat} {v vg vg' : Value} {l : List Int} {m : Int} (hv : OwnB wr B v l) (hn : l.length = n) (M : MidRel wr w2 B v n m vg q) (G : Grew B w2 w3 vg vg' (List.replicate (n + q) m ++ [m]))
    (K : (∃ g, vg'.ownBlock = some g ∧ vg.ownBlock = some g) ∨ (Below w2.heap.size w2 w3 ∧ ∃ g, vg'.ownBlock = some g ∧ w2.heap.size ≤ g)) : MidRel wr w3 B v n m vg' (q + 1) := by
  have e1 : List.replicate (n + (q + 1)) m = List.replicate (n + q) m ++ [m] := by rw [← Nat.add_assoc, List.replicate_succ']
  refine ⟨by rw [e1]; exact G.own, ?_, ?_, ?_⟩
  · refine ⟨G.grow.os.trans M.only.os, G.grow.tape.trans M.only.tape, G.grow.output.trans M.only.output, Nat.le_trans M.only.size G.grow.size, fun k hk hn => ?_⟩
    refine (G.grow.block k (Nat.lt_of_lt_of_le hk M.only.size) fun e => ?_).trans (M.only.block k hk hn)
    rcases M.at_ with h | ⟨g, h, h2⟩
    · rw [h] at e
      exact hn (by rw [← e]; simp)
    · rw [h] at e
      injection e with e
      omega
  · intro a n' c e
    subst e
    rcases K with ⟨g, k1, k2⟩ | ⟨hb, -⟩
    · rcases M.at_ with h | ⟨g', h1, h2⟩
      · rw [h] at k2
        have ha : a = some ⟨g, 0, none⟩ := by
          rcases hv.addr.2 with e | ⟨g0, e⟩
          · subst e; simp [Value.ownBlock] at k2
          · subst e; simp [Value.ownBlock] at k2; rw [k2]
        subst ha
        obtain ⟨a2, c2, e2, hin, -⟩ := G.own.shape
        have ha2 : a2 = some ⟨g, 0, none⟩ := by
          have h3 := G.own
          rw [e2] at h3 k1
          rcases h3.addr.2 with e | ⟨g0, e⟩
          · subst e; simp [Value.ownBlock] at k1
          · subst e; simp [Value.ownBlock] at k1; rw [k1]
        subst ha2
        rw [← List.replicate_append_replicate, List.append_assoc] at hin
        exact hin.prefix_
      · refine inB_grown (M.old a n' c rfl) G.grow fun b o e hl e2 => ?_
        subst e
        rw [h1] at e2
        injection e2 with e2
        have := (hv.block b rfl).2
        omega
    · exact (M.old a n' c rfl).then_ hb
  · rcases K with ⟨g, k1, k2⟩ | ⟨-, g, k1, k2⟩
    · rw [k1, ← k2]; exact M.at_
    · exact .inr ⟨g, k1, Nat.le_trans M.only.size k2⟩

theorem MidRel.start {wr w2 : World} {B n : Nat} {v : Value} {l : List Int} {m : Int} (hn : l.length = n) (h : OwnB w2 B v (List.replicate n m)) (ho : Only v.ownBlock.toList wr w2) : MidRel wr w2 B v n m v 0 :=
  ⟨by simpa using h, ho, fun a n' c e => by subst e; exact h.row, .inl rfl⟩
/-- What DoneAt needs to go on. -/
theorem DoneAt.keep {wr w' : World} {rs : List (Value × List Int)} {k : Nat} {vl vl' : Value} {j : Nat} {u : Value} (h : DoneAt wr rs k vl j u) (hb : ∀ b, b < wr.heap.size → vl.ownBlock ≠ some b → (∀ (i : Nat) (v' : Value) (l' : List Int), rs[i]? = some (v', l') → k ≤ i → v'.ownBlock ≠ some b) → w'.heap[b]? = wr.heap[b]? ∧ vl'.ownBlock ≠ some b) : DoneAt w' rs (k + 1) vl' j u := by
  obtain ⟨a, n, c, l, e, hn, hmx, hin, hm, hout⟩ := h
  refine ⟨a, n, c, l, e, hn, hmx, fun i x hx => ?_, hm, fun b o' ea h1 => ?_⟩
  · obtain ⟨b, o', ea, hc⟩ := hin i x hx
    obtain ⟨h1, h2⟩ := hout b o' ea (by have := lt_of_get hx; omega)
    refine ⟨b, o', ea, ?_⟩
    rw [← hc]
    unfold World.cell?
    rw [(hb b (cell_lt hc) h1 h2).1]
  · obtain ⟨h2, h3⟩ := hout b o' ea h1
    obtain ⟨b', o2, x, ea', -, hc⟩ := hin.one (i := 0) (by omega)
    rw [ea] at ea'
    injection ea' with ea'
    injection ea' with e1 e2
    subst e1
    exact ⟨(hb b (cell_lt hc) h2 h3).2, fun i v' l' hi hk => h3 i v' l' hi (by omega)⟩
theorem OwnRel.next {w wr w3 w4 : World} {B R o k n : Nat} {rs : List (Value × List Int)} {vl vl' v vg : Value} {l : List Int} {L : List Value} {obj : Obj}
    (h : OwnRel w wr B R o rs k vl L) (A : RowsAt w B R o rs) (hBw : B ≤ w.heap.size) (hR : R < w.heap.size) (hk : rs[k]? = some (v, l)) (hn : l.length = n) (M : MidRel wr w3 B v n (markN k) vg 9)
    (hrow : w4.ownsRow w.heap.size 22 1 vl' (2 * k + 2) (L ++ [vg, v])) (hg : (w3.alloc obj).grownBy w4 vl.ownBlock) (hat : vl'.ownBlock = vl.ownBlock ∨ ∃ g, vl'.ownBlock = some g ∧ w3.heap.size ≤ g) : OwnRel w w4 B R o rs (k + 1) vl' (L ++ [vg, v]) := by
  have vlo : ∀ b, vl.ownBlock = some b → w.heap.size ≤ b ∧ b < wr.heap.size := World.ownsRow.lt h.row
  have vB : ∀ (i : Nat) (v' : Value) (l' : List Int), rs[i]? = some (v', l') → ∀ b, v'.ownBlock = some b → B ≤ b ∧ b < w.heap.size := fun i v' l' hi b hb => (A.own i v' l' hi).block b hb
  have h3 : wr.heap.size ≤ w3.heap.size := M.only.size
  have hblk : ∀ b, b < wr.heap.size → vl.ownBlock ≠ some b → v.ownBlock ≠ some b → w4.heap[b]? = wr.heap[b]? := fun b hb h1 h2 => by
    rw [hg.block b (by simp; omega) (fun e => h1 e.symm)]
    rw [Below.heap_alloc w3 obj b (by omega)]
    exact M.only.block b hb (by simp; exact h2)
  have hvlw : ∀ b, b < wr.heap.size → vl.ownBlock ≠ some b → vl'.ownBlock ≠ some b := fun b hb h1 e => by
    rcases hat with h2 | ⟨g, h2, h4⟩
    · exact h1 (h2 ▸ e)
    · rw [h2] at e; injection e with e; omega
  have hwr : w.heap.size ≤ wr.heap.size := h.below.size
  have hlow : ∀ b, b < w.heap.size → vl.ownBlock ≠ some b := fun b hb e => by have := (vlo b e).1; omega
  have good : ∀ b, b < w3.heap.size → (v.ownBlock = some b ∨ wr.heap.size ≤ b) → vl.ownBlock ≠ some b ∧ vl'.ownBlock ≠ some b ∧ ∀ (i : Nat) (v' : Value) (l' : List Int), rs[i]? = some (v', l') → k + 1 ≤ i → v'.ownBlock ≠ some b := fun b hb3 hb => by
    have h1 : vl.ownBlock ≠ some b := by
      rcases hb with hb | hb
      · exact hlow b (vB k v l hk b hb).2
      · intro e; have := (vlo b e).2; omega
    refine ⟨h1, fun e => ?_, fun i v' l' hi hik => ?_⟩
    · rcases hat with h2 | ⟨g, h2, h4⟩
      · exact h1 (h2 ▸ e)
      · rw [h2] at e; injection e with e; omega
    · rcases hb with hb | hb
      · exact A.apart k i v l v' l' hk hi (by omega) b hb
      · intro e; have := (vB i v' l' hi b e).2; omega
  have mem : ∀ (m : Int) (q : Nat), ∀ x ∈ List.replicate q m, x = m := fun m q x hx => (List.mem_replicate.1 hx).2
  have fin : ∀ (a : Option Addr) (q c : Nat) (j : Nat) (u : Value), u = .slice a q c → q ≤ maxLen → j / 2 = k → InB w3 a (List.replicate q (markN k)) → (∀ b o', a = some (⟨b, o', none⟩ : Addr) → 1 ≤ q → v.ownBlock = some b ∨ wr.heap.size ≤ b) → DoneAt w4 rs (k + 1) vl' j u := fun a q c j u e hq hj hin hb => by
    have hlt : ∀ b o', a = some (⟨b, o', none⟩ : Addr) → 1 ≤ q → b < w3.heap.size := fun b o' ea h1 => by
      obtain ⟨b', o2, x, ea', -, hc⟩ := hin.one (i := 0) (by simp; omega)
      rw [ea] at ea'
      injection ea' with ea'
      injection ea' with e1 e2
      subst e1
      exact cell_lt hc
    refine ⟨a, q, c, _, e, List.length_replicate, hq, inB_grown (hin.then_ (below1 w3 obj)) hg (fun b o' ea h1 => ?_), by rw [hj]; exact mem _ _, fun b o' ea h1 => ?_⟩
    · rw [List.length_replicate] at h1
      exact (good b (hlt b o' ea h1) (hb b o' ea h1)).1
    · exact (good b (hlt b o' ea h1) (hb b o' ea h1)).2
  have keepB : ∀ b, b < w.heap.size → v.ownBlock ≠ some b → w4.heap[b]? = wr.heap[b]? := fun b hb h1 => hblk b (by omega) (hlow b hb) h1
  refine ⟨by rw [List.length_append, h.len]; simp; omega, ?_, fun j u hj => ?_, fun i v' l' hi hik => ?_, fun i v' l' hi => ?_, ?_⟩
  · exact hrow
  · by_cases hj1 : j < 2 * k
    · rw [List.getElem?_append_left (by rw [h.len]; exact hj1)] at hj
      exact (h.done j u hj).keep fun b hb h1 h2 => ⟨hblk b hb h1 (h2 k v l hk (Nat.le_refl _)), hvlw b hb h1⟩
    · rw [List.getElem?_append_right (by rw [h.len]; omega), h.len] at hj
      have hj2 := lt_of_get hj
      simp at hj2
      rcases (by omega : j - 2 * k = 0 ∨ j - 2 * k = 1) with e | e
      · rw [e] at hj
        injection hj with hj
        subst hj
        obtain ⟨a, c, ev, hin, -, hle, hmx⟩ := M.own.shape
        refine fin a _ c j _ ev (Nat.le_trans hle hmx) (by omega) (by rw [List.length_replicate]; exact hin) fun b o' ea h1 => ?_
        rcases M.at_ with h2 | ⟨g, h2, h4⟩
        · left; rw [← h2, ev, ea]; rfl
        · right; rw [ev, ea] at h2; injection h2 with h2; subst h2; exact h4
      · rw [e] at hj
        injection hj with hj
        subst hj
        obtain ⟨a, c, ev, -, -, hle, hmx⟩ := (A.own k v l hk).shape
        rw [hn] at ev hle
        exact fin a n c j _ ev (Nat.le_trans hle hmx) (by omega) (M.old a n c ev) fun b o' ea h1 => by left; rw [ev, ea]; rfl
  · exact (h.rest i v' l' hi (by omega)).keep fun g hgb => keepB g (vB i v' l' hi g hgb).2 (fun e => A.apart k i v l v' l' hk hi (by omega) g e hgb)
  · rw [← h.cell i v' l' hi]
    unfold World.cell?
    rw [keepB R hR (A.off k v l hk)]
  · have hb := h.below
    refine ⟨hg.os.trans (M.only.os.trans hb.os), hg.tape.trans (M.only.tape.trans hb.tape), hg.output.trans (M.only.output.trans hb.output), by have := hg.size; simp at this; omega, fun b hbb => ?_⟩
    rw [keepB b (by omega) (fun e => by have := (vB k v l hk b e).1; omega)]
    exact hb.block b hbb
end Go.Proofs.YtophhnolnlbecaaDoor
namespace Go.Proofs.YtophhnolnlbecaaDoor
open Go.RowKit
set_option maxRecDepth 100000

theorem info_row : (Tryd.prog.info? 22).map (fun i => (i.zero, i.size, i.bytes)) = some (some (.slice none 0 0), 1, 24) := by kernel_rfl
theorem row_only {w w' : World} {B : Nat} {e : TypeId} {size n : Nat} {v : Value} {xs : List Value} {S : List Nat} (h : w.ownsRow B e size v n xs) (ho : Only S w w') (hd : ∀ b, v.ownBlock = some b → b ∉ S) : w'.ownsRow B e size v n xs := by
  have h1 : Owns w B [⟨e, size, v, n, xs⟩] := by intro r hr; simp at hr; subst hr; exact h
  exact h1.only ho (by intro b hb; simp [blocksOf] at hb; exact hd b hb) ⟨e, size, v, n, xs⟩ (by simp)
set_option maxHeartbeats 8000000 in
theorem sowned_any (B R o c N : Nat) (ra : Option Addr) (rs : List (Value × List Int)) (w : World) (A : RowsAt w B R o rs) (hN : rs.length = N) (hra : 0 < N → ra = some ⟨R, o, none⟩) (hBw : B ≤ w.heap.size) (hR : R < w.heap.size)
    (hb : ∀ (i : Nat) (v : Value) (l : List Int), rs[i]? = some (v, l) → l.length + 9 ≤ 140737488355328) (hm : (2 * N + 2) * 24 ≤ 140737488355328) :
    Calls Tryd.prog 14 #[.slice ra N c] w fun e w' => e = .returned (.bool true) ∧ Below B w w' := by
  obtain ⟨i0, hi0, hz0, hz1, hz2⟩ := info_parts info_row
  have I0 := Lib.hid (And.intro hi0 (And.intro hz0 (And.intro hz1 hz2)))
  clear hi0 hz0 hz1 hz2
  have HA := Lib.hid (And.intro A (And.intro hN (And.intro hra hb)))
  have H0 := Lib.hid (OwnRel.start A)
  clear A hN hra hb
  go_enter Tryd.func14, Tryd.ntmps14
  go_wp2_with fail
  go_loopw [3, 4] (fun vl i wr => ∃ (k : Nat) (L : List Value), k ≤ N ∧ i = .int .i64 (k : Int) ∧ Hid (OwnRel w wr B R o rs k vl L)) (fun _ i _ => N - (intOf i).toNat)
  case atStart => exact ⟨0, [], by omega, rfl, H0.out⟩
  case round =>
    obtain ⟨k, L, hk, rfl, HK⟩ := hrel
    obtain ⟨wo, hwo⟩ : ∃ wo, wo = wr := ⟨_, rfl⟩
    subst hwo
    by_cases hlt : k < N
    · obtain rfl := HA.out.2.2.1 (by omega)
      obtain ⟨⟨v, l⟩, hkl⟩ : ∃ x, rs[k]? = some x := ⟨_, List.getElem?_eq_getElem (by rw [HA.out.2.1]; exact hlt)⟩
      have ov := HK.rest k v l hkl (Nat.le_refl _)
      obtain ⟨a, cv, rfl, -, -, hlc, hcm⟩ := ov.shape
      obtain ⟨n, hn⟩ : ∃ n, l.length = n := ⟨_, rfl⟩
      have hn9 := HA.out.2.2.2 k _ l hkl
      have HV := Lib.hid (And.intro hkl (And.intro hn (And.intro ov hlc)))
      rw [hn] at hn9 hlc
      have hc0 := HK.cell k _ l hkl
      rw [hn] at hc0
      unfold maxLen at hcm
      clear hkl hn ov
      go_wp2_with fail
      obtain ⟨M, hM⟩ : ∃ M, M = 1 + (k : Int) % 250 := ⟨_, rfl⟩
      rw [← hM]
      have hM0 : 0 ≤ M ∧ M ≤ 255 := by omega
      have HM : Hid (M = markN k) := Lib.hid (by rw [hM]; unfold markN; omega)
      clear hM
      obtain ⟨hM0, hM1⟩ := hM0
      have hcR : ∀ w2 : World, Only (Value.slice a n cv).ownBlock.toList wo w2 → w2.cell? ⟨R, o + k, none⟩ = some (.slice a n cv) := fun w2 ho => by
        have h := HK.cell k _ l HV.out.1
        rw [HV.out.2.1] at h
        rw [← h]
        unfold World.cell?
        rw [ho.block R (cell_lt h) (by have := HA.out.1.off k _ l HV.out.1; rw [HV.out.2.1] at this; simpa using this)]
      have HCR := Lib.hid hcR
      clear hcR hc0
      go_loopw [6] (fun i w2 => ∃ m : Nat, m ≤ n ∧ i = .int .i64 (m : Int) ∧ Hid (OwnB w2 B (.slice a n cv) (List.replicate m M ++ l.drop m) ∧ Only (Value.slice a n cv).ownBlock.toList wo w2)) (fun i _ => n - (intOf i).toNat)
      case atStart => exact ⟨0, by omega, rfl, by have h := HV.out.2.2.1; rw [HV.out.2.1] at h; simpa using h, Only.refl _ _⟩
      case round =>
        obtain ⟨m, hm1, rfl, HF⟩ := hrel
        have hcc := HCR.out wr HF.2
        by_cases hmn : m < n
        · have hml : m < l.length := by rw [HV.out.2.1]; exact hmn
          obtain ⟨g, c1, e, -⟩ := HF.1.form (by rw [fill_len (by omega)]; omega)
          have e' : a = some ⟨g, 0, none⟩ := by injection e
          subst e'
          clear e
          obtain ⟨x, x0, f0⟩ : ∃ x, wr.cell? ⟨g, m, none⟩ = some (.int .u8 x) ∧ wr.frozen? ⟨g, m, none⟩ = false := ⟨_, HF.1.at_ (j := m) (x := l[m]) (by rw [List.getElem?_append_right (by simp)]; simp [hml])⟩
          have HL := Lib.hid hml
          clear hml
          go_wp2_with fail
          go_roundw
          case rel =>
            obtain ⟨s1, s2⟩ := HF.1.set m M
            rw [fill_set HL.out] at s1
            exact ⟨m + 1, by omega, by go_num, s1, HF.2.trans (Only.of_grown s2)⟩
          case measure => simp [intOf]; omega
        · have hmn2 : m = n := by omega
          have HF1 : Hid (OwnB wr B (.slice a n cv) (List.replicate n M) ∧ Only (Value.slice a n cv).ownBlock.toList wo wr) := by
            rw [hmn2] at HF
            have h := HF
            rw [show l.drop n = [] from List.drop_of_length_le (by rw [HV.out.2.1]; omega), List.append_nil] at h
            exact h
          rw [show (m : Int) = n by omega]
          clear HF hmn hm1 hmn2
          go_wp2_with fail
          go_loopw [7, 8] (fun vg i w3 => ∃ q : Nat, q ≤ 9 ∧ i = .int .i64 (q : Int) ∧ Hid (MidRel wo w3 B (.slice a n cv) n M vg q)) (fun _ i _ => 9 - (intOf i).toNat)
          case atStart => exact ⟨0, by omega, rfl, MidRel.start HV.out.2.1 HF1.out.1 HF1.out.2⟩
          case round =>
            clear hcc
            obtain ⟨q, hq, rfl, HQ⟩ := hrel
            by_cases hq9 : q < 9
            · have hz : B ≤ wr.heap.size := Nat.le_trans (Nat.le_trans hBw HK.below.size) HQ.only.size
              go_wp2_with (at_builtin; refine apLK _ rfl (.tmp 45) (.tmp 47) rfl B _ _ rfl HQ.own [M] _ 1 1 rfl rfl rfl rfl (by omega) (by simp; omega) hz ?_; intro v' w1 hg hk; have G1 := Lib.hid (And.intro hg hk); clear hg hk)
              go_roundw
              case rel =>
                have ov := HV.out.2.2.1
                rw [HV.out.2.1] at ov
                exact ⟨q + 1, by omega, by go_num, HQ.next ov HV.out.2.1 G1.out.1 G1.out.2⟩
              case measure => simp [intOf]; omega
            · have hq10 : q = 9 := by omega
              rw [hq10] at HQ
              rw [show (q : Int) = 9 by omega]
              have hc3 := HCR.out wr HQ.only
              have hz : w.heap.size ≤ wr.heap.size := Nat.le_trans HK.below.size HQ.only.size
              obtain ⟨ag, ng, cg, e7⟩ : ∃ ag ng cg, u7 = .slice ag ng cg := by obtain ⟨ag, cg, e, -⟩ := HQ.own.shape; exact ⟨_, _, _, e⟩
              subst e7
              have orow : Hid ((wr.alloc (.cells #[.slice ag ng cg, .slice a n cv] 22)).ownsRow w.heap.size 22 1 u3 (2 * k) L) := Lib.hid (World.ownsRow.alloc (row_only HK.row HQ.only fun b hb hb2 => by
                have h1 := (World.ownsRow.lt HK.row b hb).1
                have h2 := HA.out.1.own k _ l HV.out.1
                rw [HV.out.2.1] at h2
                have h3 := (h2.block b (by simpa using hb2)).2
                omega) _)
              clear hq9 hq hq10
              go_wp2_with (at_builtin; refine wpList_append_own_at _ rfl (.tmp 49) (.tmp 55) 30 rfl w.heap.size 22 i0 _ 1 24 Tryd.underlying30 I0.out.1 I0.out.2.1 I0.out.2.2.1 I0.out.2.2.2 rfl (by decide) _ _ _ rfl orow.out ⟨wr.heap.size, 0, none⟩ 2 2 [.slice ag ng cg, .slice a n cv] rfl rfl ((World.ownsRow_lit (size := 1) (e := 22) wr #[.slice ag ng cg, .slice a n cv] 2 (Nat.le_refl _) (by decide) rfl).cells rfl) (by intro u hu; simp at hu; rcases hu with rfl | rfl <;> rfl) (by unfold maxLen; omega) (by omega) (Nat.le_trans hz (below1 _ _).size) ?_; intro v' w1 own1 grow1 _ hat; have O1 := Lib.hid (And.intro own1 (And.intro grow1 hat)); clear own1 grow1 hat)
              go_roundw
              case rel =>
                refine ⟨k + 1, L ++ [.slice ag ng cg, .slice a n cv], by omega, by go_num, HK.next HA.out.1 hBw hR (by have h := HV.out.1; rw [← HV.out.2.1]; exact h) HV.out.2.1 (by rw [← HM.out]; exact HQ) O1.out.1 O1.out.2.1 ?_⟩
                rcases O1.out.2.2 with h | h
                · exact .inl h
                · exact .inr ⟨_, h, (below1 _ _).size⟩
              case measure => simp [intOf]; omega
    · have hkN : k = N := by omega
      rw [hkN] at HK
      rw [show (k : Int) = N by omega]
      clear hk hlt hkN
      obtain ⟨al, cl, e3⟩ : ∃ al cl, u3 = .slice al (2 * N) cl := by
        rcases HK.row.2 with ⟨h1, h2⟩ | ⟨g, cap, cur, h1, -⟩
        · exact ⟨none, 0, by rw [h1, h2]⟩
        · exact ⟨_, _, h1⟩
      subst e3
      go_wp2_with fail
      go_loop [9] (fun i => ∃ p : Nat, p ≤ 2 * N ∧ i = .int .i64 (p : Int)) (fun i => 2 * N - (intOf i).toNat)
      case atStart => exact ⟨0, by omega, rfl⟩
      case round =>
        obtain ⟨p, hp, rfl⟩ := hrel
        by_cases hp2 : p < 2 * N
        · obtain ⟨v, hLp⟩ : ∃ v, L[p]? = some v := ⟨_, List.getElem?_eq_getElem (by rw [HK.len]; exact hp2)⟩
          obtain ⟨a, n, c2, l, rfl, hn, hmx, hin, hmk, -⟩ := HK.done p v hLp
          obtain ⟨g, cap, e1, -⟩ := World.ownsRow.form HK.row (by omega)
          injection e1 with e1 _ e2
          subst e1
          clear e2
          have hLc : wo.cell? ⟨g, p, none⟩ = some (.slice a n c2) := by rw [World.ownsRow.cellAt HK.row p (by omega)]; exact hLp
          have HP := Lib.hid (And.intro hn (And.intro hin hmk))
          have hnm : n ≤ 9223372036854775807 := by unfold maxLen at hmx; omega
          clear hn hin hmk hLp hmx
          have hmp : markN (p / 2) = 1 + (p : Int) / 2 % 250 := by unfold markN; omega
          have HMP := Lib.hid hmp
          clear hmp
          go_wp2_with fail
          go_loop [10] (fun i => ∃ q : Nat, q ≤ n ∧ i = .int .i64 (q : Int)) (fun i => n - (intOf i).toNat)
          case atStart => exact ⟨0, by omega, rfl⟩
          case round =>
            obtain ⟨q, hq, rfl⟩ := hrel
            by_cases hq2 : q < n
            · obtain ⟨b, o2, x, rfl, hx, x0⟩ := HP.out.2.1.one (i := q) (by rw [HP.out.1]; exact hq2)
              have hxm := (HP.out.2.2 x (List.mem_of_getElem? hx)).trans HMP.out
              subst hxm
              clear hx
              go_wp2_with fail
              go_round
              case rel => exact ⟨q + 1, by omega, by go_num⟩
              case measure => simp [intOf]; omega
            · go_wp2_with fail
              go_round
              case rel => exact ⟨p + 1, by omega, by go_num⟩
              case measure => simp [intOf]; omega
        · go_wp2_with fail
          go_ret
          exact ⟨rfl, HK.below⟩
end Go.Proofs.YtophhnolnlbecaaDoor
