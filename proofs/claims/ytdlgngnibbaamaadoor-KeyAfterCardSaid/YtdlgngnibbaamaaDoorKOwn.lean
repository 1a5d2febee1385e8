/- The contracts of what the laws of layer 2 call over bytes: Lent, Kept, Owned; no statement is proved here. -/
import Derived.Test.YtdlgngnibbaamaaDoorKRow
import Derived.Test.YtdlgngnibbaamaaDoorKText
namespace Go.Proofs.YtdlgngnibbaamaaDoor
open Go.RowKit
set_option maxRecDepth 100000

/-- A row that was written over so far. -/
theorem fill_set {l : List Int} {k : Nat} (hk : k < l.length) (x : Int) : (List.replicate k x ++ l.drop k).set k x = List.replicate (k + 1) x ++ l.drop (k + 1) := by
  rw [List.set_append_right _ _ (by simp), List.length_replicate, Nat.sub_self, List.drop_eq_getElem_cons hk, List.set_cons_zero, List.replicate_succ', List.append_assoc]
  rfl
theorem fill_len {l : List Int} {k : Nat} (hk : k ≤ l.length) (x : Int) : (List.replicate k x ++ l.drop k).length = l.length := by simp; omega
theorem OwnB.slice {w : World} {B n c : Nat} {a : Option Addr} {l : List Int} (h : OwnB w B (.slice a n c) l) : n = l.length := by
  obtain ⟨a', c', e, -⟩ := h.shape
  injection e
theorem OwnB.grown {w w' : World} {B : Nat} {v : Value} {l : List Int} {row : Option Nat} (h : OwnB w B v l) (hg : w.grownBy w' row) (hn : ∀ g, v.ownBlock = some g → row ≠ some g) : OwnB w' B v l :=
  h.keep fun g hg' => hg.block g (h.block g hg').2 (fun e => hn g hg' e.symm)

structure OwnedAt (w wr : World) (B : Nat) (v1 v2 : Value) (l1 l2 : List Int) : Prop where
  one : OwnB wr B v1 l1
  two : OwnB wr B v2 l2
  off : ∀ g, v1.ownBlock = some g → v2.ownBlock ≠ some g
  below : Below B w wr
set_option maxHeartbeats 8000000 in
theorem owned_any (B : Nat) (v1 v2 : Value) (l1 l2 : List Int) (w : World) (o1 : OwnB w B v1 l1) (o2 : OwnB w B v2 l2) (hd : ∀ g, v1.ownBlock = some g → v2.ownBlock ≠ some g) (hB : B ≤ w.heap.size) (h1 : l1.length + 2 ≤ 140737488355328) (h2 : l2.length + 2 ≤ 140737488355328) :
    Calls Tryd.prog 19 #[v1, v2] w fun e w' => e = .returned (.bool true) ∧ Below B w w' := by
  have HS := Lib.hid (OwnedAt.mk o1 o2 hd (Below.refl B w))
  obtain ⟨a1, c1, rfl, -, -, -, -⟩ := o1.shape
  obtain ⟨a2, c2, rfl, -, -, -, -⟩ := o2.shape
  clear o1 o2 hd
  go_enter Tryd.func19, Tryd.ntmps19
  go_wp2_with fail
  go_loopw [5] (fun i wr => ∃ k : Nat, k ≤ l1.length ∧ i = .int .i64 k ∧ OwnedAt w wr B (.slice a1 l1.length c1) (.slice a2 l2.length c2) (List.replicate k 1 ++ l1.drop k) l2) (fun i _ => l1.length - (intOf i).toNat)
  case atStart => exact ⟨0, by omega, rfl, by simpa using HS.out⟩
  case round =>
    obtain ⟨k, hk, rfl, hR⟩ := hrel
    have HR := Lib.hid hR
    by_cases hkl : k < l1.length
    · obtain ⟨g, c, e, -⟩ := hR.one.form (by rw [fill_len hk]; omega)
      have e' : a1 = some ⟨g, 0, none⟩ := by injection e
      subst e'
      clear e
      obtain ⟨x, x0, f0⟩ : ∃ x, wr.cell? ⟨g, k, none⟩ = some (.int .u8 x) ∧ wr.frozen? ⟨g, k, none⟩ = false := ⟨_, hR.one.at_ (j := k) (x := l1[k]) (by rw [List.getElem?_append_right (by simp)]; simp [hkl])⟩
      clear hR
      go_wp2_with fail
      go_roundw
      case rel =>
        obtain ⟨s1, s2⟩ := HR.out.one.set k 1
        rw [fill_set hkl] at s1
        exact ⟨k + 1, by omega, by go_num, s1, HR.out.two.grown s2 (fun b hb e => HR.out.off g rfl (by rw [hb]; exact e.symm)), HR.out.off, HR.out.below.grown s2 (Nat.le_trans hB HR.out.below.size) (fun b hb => by injection hb with hb; subst hb; exact (HR.out.one.block g rfl).1)⟩
      case measure => simp [intOf]; omega
    · have hk1 : k = l1.length := by omega
      subst hk1
      have e1 : List.replicate l1.length 1 ++ l1.drop l1.length = List.replicate l1.length 1 := by simp
      rw [e1] at HR
      clear hR
      go_wp2_with fail
      go_loopw [6] (fun i wr => ∃ k : Nat, k ≤ l2.length ∧ i = .int .i64 k ∧ OwnedAt w wr B (.slice a1 l1.length c1) (.slice a2 l2.length c2) (List.replicate l1.length 1) (List.replicate k 2 ++ l2.drop k)) (fun i _ => l2.length - (intOf i).toNat)
      case atStart => exact ⟨0, by omega, rfl, by simpa using HR.out⟩
      case round =>
        obtain ⟨k, hk2, rfl, hR⟩ := hrel
        replace HR := Lib.hid hR
        by_cases hkl2 : k < l2.length
        · obtain ⟨g, c, e, -⟩ := hR.two.form (by rw [fill_len hk2]; omega)
          have e' : a2 = some ⟨g, 0, none⟩ := by injection e
          subst e'
          clear e
          obtain ⟨x, x0, f0⟩ : ∃ x, wr.cell? ⟨g, k, none⟩ = some (.int .u8 x) ∧ wr.frozen? ⟨g, k, none⟩ = false := ⟨_, hR.two.at_ (j := k) (x := l2[k]) (by rw [List.getElem?_append_right (by simp)]; simp [hkl2])⟩
          clear hR
          go_wp2_with fail
          go_roundw
          case rel =>
            obtain ⟨s1, s2⟩ := HR.out.two.set k 2
            rw [fill_set hkl2] at s1
            exact ⟨k + 1, by omega, by go_num, HR.out.one.grown s2 (fun b hb e => HR.out.off b hb (by rw [← e]; rfl)), s1, HR.out.off, HR.out.below.grown s2 (Nat.le_trans hB HR.out.below.size) (fun b hb => by injection hb with hb; subst hb; exact (HR.out.two.block g rfl).1)⟩
          case measure => simp [intOf]; omega
        · have hk3 : k = l2.length := by omega
          subst hk3
          have e2 : List.replicate l2.length 2 ++ l2.drop l2.length = List.replicate l2.length 2 := by simp
          rw [e2] at HR
          have hz := Nat.le_trans hB HR.out.below.size
          clear hR
          go_wp2_with (first
            | (at_builtin; refine apL _ rfl (.tmp 27) (.tmp 28) rfl B _ _ rfl HR.out.one [1, 1] _ 2 2 rfl rfl rfl rfl (by simp; omega) hz ?_; intro u1 w1 hg1; have t1 := HR.out.two.grown hg1.grow (fun b hb e => HR.out.off b e (by rw [hb])); have G1 := Lib.hid (And.intro hg1 (And.intro t1 (hg1.below HR.out.one HR.out.below (Nat.le_refl _) hz))); have hz1 := Nat.le_trans hz hg1.size; clear hg1 t1)
            | (at_builtin; refine apL _ rfl (.tmp 30) (.tmp 31) rfl B _ _ rfl G1.out.2.1 [2, 2] _ 2 2 rfl rfl rfl rfl (by simp; omega) hz1 ?_; intro u2 w2 hg2; have p1 := G1.out.1.own.grown hg2.grow (fun b hb e => by rcases G1.out.1.at_ with q | ⟨gg, q, q2⟩; exact HR.out.off b (q ▸ hb) e; (rw [q] at hb; injection hb with hb; have := (HR.out.two.block b e).2; omega)); have G2 := Lib.hid (And.intro p1 (And.intro hg2.own (hg2.below G1.out.2.1 G1.out.2.2 (Nat.le_refl _) hz1))); obtain ⟨b1, d1, rfl, -, -, -, -⟩ := p1.shape; obtain ⟨b2, d2, rfl, -, -, -, -⟩ := hg2.own.shape; clear hg2 p1))
          have n1 : (List.replicate l1.length (1 : Int) ++ [1, 1]).length = l1.length + 2 := by simp
          have n2 : (List.replicate l2.length (2 : Int) ++ [2, 2]).length = l2.length + 2 := by simp
          have r1 : ∀ (k : Nat) (x : Int), (List.replicate l1.length (1 : Int) ++ [1, 1])[k]? = some x → x = 1 := fun k x hx => by have := List.mem_of_getElem? hx; simp at this; omega
          have r2 : ∀ (k : Nat) (x : Int), (List.replicate l2.length (2 : Int) ++ [2, 2])[k]? = some x → x = 2 := fun k x hx => by have := List.mem_of_getElem? hx; simp at this; omega
          generalize List.replicate l1.length (1 : Int) ++ [1, 1] = m1 at *
          generalize List.replicate l2.length (2 : Int) ++ [2, 2] = m2 at *
          have i1 : InB w2 b1 m1 := by obtain ⟨a', c', e, h, -⟩ := G2.out.1.shape; injection e with e _ _; subst e; exact h
          have i2 : InB w2 b2 m2 := by obtain ⟨a', c', e, h, -⟩ := G2.out.2.1.shape; injection e with e _ _; subst e; exact h
          have GG := Lib.hid (And.intro (And.intro r1 r2) (And.intro (And.intro n1 n2) (And.intro i1 i2)))
          have hb2 := G2.out.2.2
          have G3 := Lib.hid hb2
          clear r1 r2 HR G1 G2 HS i1 i2 n1 n2 hb2
          go_loopw [7] (fun i wr => ∃ k : Nat, k ≤ l1.length + 2 ∧ i = .int .i64 k ∧ Below w2.heap.size w2 wr) (fun i _ => l1.length + 2 - (intOf i).toNat)
          case atStart => exact ⟨0, by omega, rfl, Below.refl _ _⟩
          case round =>
            obtain ⟨k, hk4, rfl, hbw⟩ := hrel
            by_cases hk5 : k < l1.length + 2
            · obtain ⟨bb, o, x, rfl, hx, x0⟩ := (GG.out.2.2.1.then_ hbw).one (i := k) (by rw [GG.out.2.1.1]; exact hk5)
              obtain rfl := GG.out.1.1 k x hx
              have HBW := Lib.hid hbw
              clear hx hbw
              go_wp2_with fail
              go_roundw
              case rel => exact ⟨k + 1, by omega, by go_num, HBW.out⟩
              case measure => simp [intOf]; omega
            · have HBW := Lib.hid hbw
              clear hbw
              go_wp2_with fail
              go_loopw [8] (fun i wr => ∃ k : Nat, k ≤ l2.length + 2 ∧ i = .int .i64 k ∧ Below w2.heap.size w2 wr) (fun i _ => l2.length + 2 - (intOf i).toNat)
              case atStart => exact ⟨0, by omega, rfl, HBW.out⟩
              case round =>
                obtain ⟨k, hk6, rfl, hbw⟩ := hrel
                by_cases hk7 : k < l2.length + 2
                · obtain ⟨bb, o, x, rfl, hx, x0⟩ := (GG.out.2.2.2.then_ hbw).one (i := k) (by rw [GG.out.2.1.2]; exact hk7)
                  obtain rfl := GG.out.1.2 k x hx
                  replace HBW := Lib.hid hbw
                  clear hx hbw
                  go_wp2_with fail
                  go_roundw
                  case rel => exact ⟨k + 1, by omega, by go_num, HBW.out⟩
                  case measure => simp [intOf]; omega
                · replace HBW := Lib.hid hbw
                  clear hbw
                  go_wp2_with fail
                  go_ret
                  exact ⟨rfl, G3.out.trans (HBW.out.mono (Nat.le_trans hB G3.out.size))⟩
end Go.Proofs.YtdlgngnibbaamaaDoor
