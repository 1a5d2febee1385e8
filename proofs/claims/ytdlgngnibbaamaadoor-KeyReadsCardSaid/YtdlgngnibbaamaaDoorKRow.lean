/- The contracts of keyenc's turn and appendRow: no statement is proved here. -/
import Derived.Test.YtdlgngnibbaamaaDoorKVal3
namespace Go.Proofs.YtdlgngnibbaamaaDoor
open Go.RowKit
set_option maxRecDepth 100000

/-- Bytes are bytes. -/
def isB (l : List Int) : Prop := ∀ b ∈ l, 0 ≤ b ∧ b ≤ 255
theorem isB.append {a b : List Int} (h : isB a) (k : isB b) : isB (a ++ b) := fun x hx => (List.mem_append.1 hx).elim (h x) (k x)
theorem isB.cons {x : Int} {b : List Int} (h : 0 ≤ x ∧ x ≤ 255) (k : isB b) : isB (x :: b) := fun y hy => (List.mem_cons.1 hy).elim (fun e => e ▸ h) (k y)
theorem isB.nil : isB [] := fun x hx => by cases hx
theorem isB_bsI (s : ByteArray) : isB (bsI s) := fun b hb => by
  obtain ⟨x, _, rfl⟩ := List.mem_map.1 hb
  have := x.toNat_lt
  omega
theorem isB_leB (k : Nat) (n : Int) : isB (leB k n) := by
  induction k generalizing n with
  | zero => exact isB.nil
  | succ k ih => exact isB.cons (by omega) (ih _)
theorem isB_beB (k : Nat) (n : Int) : isB (beB k n) := fun b hb => isB_leB k n b (List.mem_reverse.1 hb)
theorem isB_keyT {l : List Int} (h : isB l) : isB (keyT l) := by
  induction l with
  | nil => exact isB.cons (by omega) (isB.cons (by omega) isB.nil)
  | cons b r ih =>
    have h2 := ih fun x hx => h x (by simp [hx])
    rw [keyT]
    split
    · exact isB.cons (by omega) (isB.cons (by omega) h2)
    · exact isB.cons (h b (by simp)) h2
theorem isB_keyV (v : V) : isB (keyV v) := by
  induction v using V.ind with
  | h k n s l d ihl ihd =>
  have hL : ∀ r : List V, (∀ x ∈ r, x ∈ l) → isB (keyL r) := by
    intro r
    induction r with
    | nil => intro _; exact isB.cons (by omega) isB.nil
    | cons x r ih => intro hm; exact isB.cons (by omega) ((ihl x (hm x (by simp))).append (ih fun y hy => hm y (by simp [hy])))
  have hD : ∀ r : List (ByteArray × V), (∀ x ∈ r, x ∈ d) → isB (keyD r) := by
    intro r
    induction r with
    | nil => intro _; exact isB.cons (by omega) isB.nil
    | cons x r ih => intro hm; obtain ⟨t, x⟩ := x; exact isB.cons (by omega) ((isB_keyT (isB_bsI t)).append ((ihd (t, x) (hm _ (by simp))).append (ih fun y hy => hm y (by simp [hy]))))
  rw [keyV]
  refine isB.cons (by omega) ?_
  split
  · exact isB_beB _ _
  split
  · exact isB.cons (by omega) isB.nil
  split
  · exact isB_keyT (isB_bsI s)
  split
  · exact isB_bsI s
  split
  · exact hL l fun x hx => hx
  split
  · exact hD d fun x hx => hx
  · exact isB.nil
theorem flip_len (l : List Int) : (flip l).length = l.length := List.length_map _
theorem isB_flip {l : List Int} (h : isB l) : isB (flip l) := fun b hb => by
  obtain ⟨x, hx, rfl⟩ := List.mem_map.1 hb
  have := h x hx
  omega
theorem keyV_ne (v : V) : 1 ≤ (keyV v).length := by cases v; rw [keyV]; simp

/-- So far turned. -/
theorem flip_step {p q : List Int} {k : Nat} {x : Int} (hx : q[k]? = some x) : (p ++ (flip (q.take k) ++ q.drop k)).set (p.length + k) (255 - x) = p ++ (flip (q.take (k + 1)) ++ q.drop (k + 1)) := by
  have hk := lt_of_get hx
  rw [List.set_append_right _ _ (by omega), Nat.add_sub_cancel_left, List.set_append_right _ _ (by rw [flip_len, List.length_take]; omega), flip_len, List.length_take, Nat.min_eq_left (by omega), Nat.sub_self]
  obtain ⟨h1, rfl⟩ := List.getElem?_eq_some_iff.1 hx
  rw [List.drop_eq_getElem_cons h1, List.set_cons_zero, List.take_add_one, hx]
  show p ++ (flip (q.take k) ++ (255 - q[k]) :: q.drop (k + 1)) = p ++ ((q.take k ++ [q[k]]).map (fun b => 255 - b) ++ q.drop (k + 1))
  rw [List.map_append, List.append_assoc]
  rfl
theorem flip_at {p q : List Int} {k : Nat} {x : Int} (hx : q[k]? = some x) : (p ++ (flip (q.take k) ++ q.drop k))[p.length + k]? = some x := by
  have hk := lt_of_get hx
  rw [List.getElem?_append_right (by omega), Nat.add_sub_cancel_left, List.getElem?_append_right (by rw [flip_len, List.length_take]; omega), flip_len, List.length_take, Nat.min_eq_left (by omega), Nat.sub_self, List.getElem?_drop, Nat.add_zero, hx]
theorem flip_len' (p q : List Int) (k : Nat) : (p ++ (flip (q.take k) ++ q.drop k)).length = p.length + q.length := by
  rw [List.length_append, List.length_append, flip_len, List.length_take, List.length_drop]; omega
theorem OwnB.set {w : World} {B g n c : Nat} {l : List Int} (h : OwnB w B (.slice (some ⟨g, 0, none⟩) n c) l) (j : Nat) (x : Int) : OwnB (w.setCell ⟨g, j, none⟩ (.int .u8 x)) B (.slice (some ⟨g, 0, none⟩) n c) (l.set j x) ∧ w.grownBy (w.setCell ⟨g, j, none⟩ (.int .u8 x)) (some g) := by
  have hn : n = l.length := by
    obtain ⟨h1, h2⟩ := h
    rcases h2 with ⟨hv, _⟩ | ⟨g', cap, cur, hv, _⟩
    · cases hv
    · injection hv
  subst hn
  obtain ⟨h1, h2⟩ := World.ownsRow.stored h j (.int .u8 x)
  refine ⟨?_, h2⟩
  unfold OwnB
  rw [List.length_set, btV, List.map_set]
  exact h1
theorem OwnB.at_ {w : World} {B g n c : Nat} {l : List Int} (h : OwnB w B (.slice (some ⟨g, 0, none⟩) n c) l) {j : Nat} {x : Int} (hx : l[j]? = some x) : w.cell? ⟨g, j, none⟩ = some (.int .u8 x) ∧ w.frozen? ⟨g, j, none⟩ = false := by
  have hn : n = l.length := by
    obtain ⟨h1, h2⟩ := h
    rcases h2 with ⟨hv, _⟩ | ⟨g', cap, cur, hv, _⟩
    · cases hv
    · injection hv
  subst hn
  refine ⟨?_, World.ownsRow.frozenAt h j⟩
  rw [World.ownsRow.cellAt h j (by have := lt_of_get hx; omega), btV, List.getElem?_map, hx]
  rfl
theorem grown_trans {a b c : World} {r : Option Nat} (h : a.grownBy b r) (k : b.grownBy c r) : a.grownBy c r :=
  ⟨k.os.trans h.os, k.tape.trans h.tape, k.output.trans h.output, Nat.le_trans h.size k.size, fun i hi hn => (k.block i (Nat.lt_of_lt_of_le hi h.size) hn).trans (h.block i hi hn)⟩

set_option maxHeartbeats 2000000 in
theorem turn_any (B g n c c' : Nat) (p q : List Int) (w : World) (hv : OwnB w B (.slice (some ⟨g, 0, none⟩) n c) (p ++ q)) (hq : isB q) (hl : p.length + q.length ≤ 140737488355328) :
    Calls Tryd.prog 81 #[.slice (some ⟨g, p.length, none⟩) q.length c'] w fun e w' => (∃ u, e = .returned u) ∧ OwnB w' B (.slice (some ⟨g, 0, none⟩) n c) (p ++ flip q) ∧ w.grownBy w' (some g) := by
  have HV := Lib.hid hv
  have HQ := Lib.hid hq
  clear hv hq
  go_enter Tryd.func81, Tryd.ntmps81
  go_wp2_with fail
  go_loopw [5] (fun i wr => ∃ k : Nat, k ≤ q.length ∧ i = .int .i64 k ∧ OwnB wr B (.slice (some ⟨g, 0, none⟩) n c) (p ++ (flip (q.take k) ++ q.drop k)) ∧ w.grownBy wr (some g)) (fun i _ => q.length - (intOf i).toNat)
  case atStart => exact ⟨0, by omega, rfl, by simpa [flip] using HV.out, World.grownBy.refl _ _⟩
  case round =>
    obtain ⟨k, hk, rfl, ho, hg⟩ := hrel
    by_cases h1 : k < q.length
    · obtain ⟨x, hx⟩ : ∃ x, q[k]? = some x := ⟨_, List.getElem?_eq_getElem h1⟩
      obtain ⟨r0, r1⟩ := HQ.out x (List.mem_of_getElem? hx)
      obtain ⟨c0, f0⟩ := ho.at_ (flip_at hx)
      have HS := Lib.hid (And.intro (flip_step (p := p) hx) (And.intro ho hg))
      have hw : (255 - x) % 256 = 255 - x := by omega
      clear hx ho hg
      go_wp2_with fail
      go_roundw
      case rel =>
        obtain ⟨s1, s2⟩ := HS.out.2.1.set (p.length + k) (255 - x)
        rw [HS.out.1] at s1
        exact ⟨k + 1, by omega, by go_num, s1, grown_trans HS.out.2.2 s2⟩
      case measure => simp [intOf]; omega
    · have hk8 : k = q.length := by omega
      have HS := Lib.hid (And.intro ho hg)
      clear ho hg
      go_wp2_with fail
      go_end0
      subst hk8
      refine ⟨⟨_, rfl⟩, ?_, HS.out.2⟩
      simpa using HS.out.1
end Go.Proofs.YtdlgngnibbaamaaDoor
