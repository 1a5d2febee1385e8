/- What layer 11's statements call over rows of bytes that need not begin where their block does: Owned. No statement is proved here. -/
import Derived.Test.YtophhnolnlbecaaDoorOOwn
namespace Go.Proofs.YtophhnolnlbecaaDoor
open Go.RowKit
set_option maxRecDepth 100000

structure RowsAtO (w : World) (B R o : Nat) (rs : List (Value × List Int)) : Prop where
  cell : ∀ (i : Nat) (v : Value) (l : List Int), rs[i]? = some (v, l) → w.cell? ⟨R, o + i, none⟩ = some v
  own : ∀ (i : Nat) (v : Value) (l : List Int), rs[i]? = some (v, l) → OwnO w B v l
  off : ∀ (i : Nat) (v : Value) (l : List Int), rs[i]? = some (v, l) → v.ownBlock ≠ some R
  apart : ∀ (i j : Nat) (v : Value) (l : List Int) (v' : Value) (l' : List Int), rs[i]? = some (v, l) → rs[j]? = some (v', l') → i ≠ j → ∀ g, v.ownBlock = some g → v'.ownBlock ≠ some g
structure OwnRelO (w wr : World) (B R o : Nat) (rs : List (Value × List Int)) (k : Nat) (vl : Value) (L : List Value) : Prop where
  len : L.length = 2 * k
  row : wr.ownsRow w.heap.size 22 1 vl (2 * k) L
  done : ∀ (j : Nat) (v : Value), L[j]? = some v → DoneAt wr rs k vl j v
  rest : ∀ (i : Nat) (v : Value) (l : List Int), rs[i]? = some (v, l) → k ≤ i → OwnO wr B v l
  cell : ∀ (i : Nat) (v : Value) (l : List Int), rs[i]? = some (v, l) → wr.cell? ⟨R, o + i, none⟩ = some v
  below : Below B w wr
theorem OwnRelO.start {w : World} {B R o : Nat} {rs : List (Value × List Int)} (h : RowsAtO w B R o rs) : OwnRelO w w B R o rs 0 (.slice none 0 0) [] :=
  ⟨rfl, World.ownsRow_nil _ _ _ _, fun j v h => by simp at h, fun i v l hi _ => h.own i v l hi, h.cell, Below.refl _ _⟩
/-- What a round does ahead of its append: only the row's own block has changed, and new ones. -/
structure MidRelO (wr w2 : World) (B : Nat) (v : Value) (n : Nat) (m : Int) (vg : Value) (q : Nat) : Prop where
  own : OwnO w2 B vg (List.replicate (n + q) m)
  only : Only v.ownBlock.toList wr w2
  old : ∀ a n' c, v = .slice a n' c → InB w2 a (List.replicate n m)
  at_ : vg.ownBlock = v.ownBlock ∨ ∃ g, vg.ownBlock = some g ∧ wr.heap.size ≤ g
  addr : (∀ a n' c, v = .slice a n' c → ∀ a2 m2 k2, vg = .slice a2 m2 k2 → a2 = a) ∨ ∃ g, vg.ownBlock = some g ∧ wr.heap.size ≤ g
/-- A mark more at the row's end. -/
theorem MidRelO.next {wr w2 w3 : World} {B n q : Nat} {v vg vg' : Value} {l : List Int} {m : Int} (hv : OwnO wr B v l) (hn : l.length = n) (M : MidRelO wr w2 B v n m vg q) (ho : OwnO w3 B vg' (List.replicate (n + q) m ++ [m])) (hg : w2.grownBy w3 vg.ownBlock)
    (K : (∃ a k1 k2 k3 k4, vg = .slice (some a) k1 k2 ∧ vg' = .slice (some a) k3 k4) ∨ (Below w2.heap.size w2 w3 ∧ ∃ g, vg'.ownBlock = some g ∧ w2.heap.size ≤ g)) : MidRelO wr w3 B v n m vg' (q + 1) := by
  have e1 : List.replicate (n + (q + 1)) m = List.replicate (n + q) m ++ [m] := by rw [← Nat.add_assoc, List.replicate_succ']
  refine ⟨by rw [e1]; exact ho, ?_, ?_, ?_, ?_⟩
  · refine ⟨hg.os.trans M.only.os, hg.tape.trans M.only.tape, hg.output.trans M.only.output, Nat.le_trans M.only.size hg.size, fun k hk hn => ?_⟩
    refine (hg.block k (Nat.lt_of_lt_of_le hk M.only.size) fun e => ?_).trans (M.only.block k hk hn)
    rcases M.at_ with h | ⟨g, h, h2⟩
    · rw [h] at e
      exact hn (by rw [← e]; simp)
    · rw [h] at e
      injection e with e
      omega
  · intro a n' c e
    subst e
    rcases K with ⟨a', k1, k2, k3, k4, q1, q2⟩ | ⟨hb, -⟩
    · rcases M.at_ with h | ⟨g', h1, h2⟩
      · have ha : a = some a' := by
          rcases M.addr with h3 | ⟨g', h1, h2⟩
          · exact (h3 a n' c rfl _ _ _ q1).symm
          · rw [h1] at h
            have : (Value.slice a n' c).ownBlock = some g' := h.symm
            have := (hv.block g' this).2
            omega
        subst ha
        obtain ⟨a2, c2, e2, hin, -⟩ := ho.shape
        rw [e2] at q2
        injection q2 with q2
        subst q2
        rw [← List.replicate_append_replicate, List.append_assoc] at hin
        exact hin.prefix_
      · refine inB_grown (M.old a n' c rfl) hg fun b o e hl e2 => ?_
        subst e
        rw [h1] at e2
        injection e2 with e2
        have := (hv.block b rfl).2
        omega
    · exact (M.old a n' c rfl).then_ hb
  · rcases K with ⟨a', k1, k2, k3, k4, q1, q2⟩ | ⟨-, g, k1, k2⟩
    · have h := M.at_
      rw [q1] at h
      rw [q2]
      exact h
    · exact .inr ⟨g, k1, Nat.le_trans M.only.size k2⟩
  · rcases K with ⟨a', k1, k2, k3, k4, q1, q2⟩ | ⟨-, g, k1, k2⟩
    · rcases M.addr with h3 | h3
      · left
        intro a n' c e a2 m2 k2' e2
        rw [q2] at e2
        injection e2 with e2
        subst e2
        exact h3 a n' c e _ _ _ q1
      · right
        obtain ⟨g, h4, h5⟩ := h3
        rw [q1] at h4
        exact ⟨g, by rw [q2]; exact h4, h5⟩
    · exact .inr ⟨g, k1, Nat.le_trans M.only.size k2⟩

theorem MidRelO.start {wr w2 : World} {B n : Nat} {v : Value} {l : List Int} {m : Int} (hn : l.length = n) (h : OwnO w2 B v (List.replicate n m)) (ho : Only v.ownBlock.toList wr w2) : MidRelO wr w2 B v n m v 0 :=
  ⟨by simpa using h, ho, fun a n' c e => by subst e; obtain ⟨a', c', e2, hin, -⟩ := h.shape; injection e2 with e2; subst e2; exact hin, .inl rfl, .inl (fun a n' c e a2 m2 k2 e2 => by rw [e] at e2; injection e2 with e2; exact e2.symm)⟩
theorem OwnRelO.next {w wr w3 w4 : World} {B R o k n : Nat} {rs : List (Value × List Int)} {vl vl' v vg : Value} {l : List Int} {L : List Value} {obj : Obj}
    (h : OwnRelO w wr B R o rs k vl L) (A : RowsAtO w B R o rs) (hBw : B ≤ w.heap.size) (hR : R < w.heap.size) (hk : rs[k]? = some (v, l)) (hn : l.length = n) (M : MidRelO wr w3 B v n (markN k) vg 9)
    (hrow : w4.ownsRow w.heap.size 22 1 vl' (2 * k + 2) (L ++ [vg, v])) (hg : (w3.alloc obj).grownBy w4 vl.ownBlock) (hat : vl'.ownBlock = vl.ownBlock ∨ ∃ g, vl'.ownBlock = some g ∧ w3.heap.size ≤ g) : OwnRelO w w4 B R o rs (k + 1) vl' (L ++ [vg, v]) := by
  have vlo : ∀ b, vl.ownBlock = some b → w.heap.size ≤ b ∧ b < wr.heap.size := World.ownsRow.lt h.row
  have vB : ∀ (i : Nat) (v' : Value) (l' : List Int), rs[i]? = some (v', l') → ∀ b, v'.ownBlock = some b → B ≤ b ∧ b < w.heap.size := fun i v' l' hi b hb => (A.own i v' l' hi).block b hb
  have h3 : wr.heap.size ≤ w3.heap.size := M.only.size
  have hblk : ∀ b, b < wr.heap.size → vl.ownBlock ≠ some b → v.ownBlock ≠ some b → w4.heap[b]? = wr.heap[b]? := fun b hb h1 h2 => by
    rw [hg.block b (by simp; omega) (fun e => h1 e.symm)]
    rw [Below.heap_alloc w3 obj b (by omega)]
    exact M.only.block b hb (by simp; exact h2)
  have hvlw : ∀ b, b < wr.heap.size → vl.ownBlock ≠ some b → vl'.ownBlock ≠ some b := fun b hb h1 e => by
    rcases hat with h2 | ⟨g, h2, h4⟩
    · exact h1 (h2 ▸ e)
    · rw [h2] at e; injection e with e; omega
  have hwr : w.heap.size ≤ wr.heap.size := h.below.size
  have hlow : ∀ b, b < w.heap.size → vl.ownBlock ≠ some b := fun b hb e => by have := (vlo b e).1; omega
  have good : ∀ b, b < w3.heap.size → (v.ownBlock = some b ∨ wr.heap.size ≤ b) → vl.ownBlock ≠ some b ∧ vl'.ownBlock ≠ some b ∧ ∀ (i : Nat) (v' : Value) (l' : List Int), rs[i]? = some (v', l') → k + 1 ≤ i → v'.ownBlock ≠ some b := fun b hb3 hb => by
    have h1 : vl.ownBlock ≠ some b := by
      rcases hb with hb | hb
      · exact hlow b (vB k v l hk b hb).2
      · intro e; have := (vlo b e).2; omega
    refine ⟨h1, fun e => ?_, fun i v' l' hi hik => ?_⟩
    · rcases hat with h2 | ⟨g, h2, h4⟩
      · exact h1 (h2 ▸ e)
      · rw [h2] at e; injection e with e; omega
    · rcases hb with hb | hb
      · exact A.apart k i v l v' l' hk hi (by omega) b hb
      · intro e; have := (vB i v' l' hi b e).2; omega
  have mem : ∀ (m : Int) (q : Nat), ∀ x ∈ List.replicate q m, x = m := fun m q x hx => (List.mem_replicate.1 hx).2
  have fin : ∀ (a : Option Addr) (q c : Nat) (j : Nat) (u : Value), u = .slice a q c → q ≤ maxLen → j / 2 = k → InB w3 a (List.replicate q (markN k)) → (∀ b o', a = some (⟨b, o', none⟩ : Addr) → 1 ≤ q → v.ownBlock = some b ∨ wr.heap.size ≤ b) → DoneAt w4 rs (k + 1) vl' j u := fun a q c j u e hq hj hin hb => by
    have hlt : ∀ b o', a = some (⟨b, o', none⟩ : Addr) → 1 ≤ q → b < w3.heap.size := fun b o' ea h1 => by
      obtain ⟨b', o2, x, ea', -, hc⟩ := hin.one (i := 0) (by simp; omega)
      rw [ea] at ea'
      injection ea' with ea'
      injection ea' with e1 e2
      subst e1
      exact cell_lt hc
    refine ⟨a, q, c, _, e, List.length_replicate, hq, inB_grown (hin.then_ (below1 w3 obj)) hg (fun b o' ea h1 => ?_), by rw [hj]; exact mem _ _, fun b o' ea h1 => ?_⟩
    · rw [List.length_replicate] at h1
      exact (good b (hlt b o' ea h1) (hb b o' ea h1)).1
    · exact (good b (hlt b o' ea h1) (hb b o' ea h1)).2
  have keepB : ∀ b, b < w.heap.size → v.ownBlock ≠ some b → w4.heap[b]? = wr.heap[b]? := fun b hb h1 => hblk b (by omega) (hlow b hb) h1
  refine ⟨by rw [List.length_append, h.len]; simp; omega, ?_, fun j u hj => ?_, fun i v' l' hi hik => ?_, fun i v' l' hi => ?_, ?_⟩
  · exact hrow
  · by_cases hj1 : j < 2 * k
    · rw [List.getElem?_append_left (by rw [h.len]; exact hj1)] at hj
      exact (h.done j u hj).keep fun b hb h1 h2 => ⟨hblk b hb h1 (h2 k v l hk (Nat.le_refl _)), hvlw b hb h1⟩
    · rw [List.getElem?_append_right (by rw [h.len]; omega), h.len] at hj
      have hj2 := lt_of_get hj
      simp at hj2
      rcases (by omega : j - 2 * k = 0 ∨ j - 2 * k = 1) with e | e
      · rw [e] at hj
        injection hj with hj
        subst hj
        obtain ⟨a, c, ev, hin, -, hle, hmx⟩ := M.own.shape
        refine fin a _ c j _ ev (Nat.le_trans hle hmx) (by omega) (by rw [List.length_replicate]; exact hin) fun b o' ea h1 => ?_
        rcases M.at_ with h2 | ⟨g, h2, h4⟩
        · left; rw [← h2, ev, ea]; rfl
        · right; rw [ev, ea] at h2; injection h2 with h2; subst h2; exact h4
      · rw [e] at hj
        injection hj with hj
        subst hj
        obtain ⟨a, c, ev, -, -, hle, hmx⟩ := (A.own k v l hk).shape
        rw [hn] at ev hle
        exact fin a n c j _ ev (Nat.le_trans hle hmx) (by omega) (M.old a n c ev) fun b o' ea h1 => by left; rw [ev, ea]; rfl
  · exact (h.rest i v' l' hi (by omega)).keep fun g hgb => keepB g (vB i v' l' hi g hgb).2 (fun e => A.apart k i v l v' l' hk hi (by omega) g e hgb)
  · rw [← h.cell i v' l' hi]
    unfold World.cell?
    rw [keepB R hR (A.off k v l hk)]
  · have hb := h.below
    refine ⟨hg.os.trans (M.only.os.trans hb.os), hg.tape.trans (M.only.tape.trans hb.tape), hg.output.trans (M.only.output.trans hb.output), by have := hg.size; simp at this; omega, fun b hbb => ?_⟩
    rw [keepB b (by omega) (fun e => by have := (vB k v l hk b e).1; omega)]
    exact hb.block b hbb
end Go.Proofs.YtophhnolnlbecaaDoor
