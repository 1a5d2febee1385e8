/- The law SumNumbers over the contracts. No statement is proved here. -/
import Derived.Test.YtocpbkmflihcnaaDoorSLaw1
namespace Go.Proofs.YtocpbkmflihcnaaDoor
open Go.RowKit
set_option maxRecDepth 100000

theorem rows_two {w : World} {B : Nat} {v1 v2 : Value} {l1 l2 : List Int} (h1 : OwnB w B v1 l1) (h2 : OwnB w B v2 l2) (hd : ∀ g, v1.ownBlock = some g → v2.ownBlock ≠ some g) (t : TypeId) : RowsAt (w.alloc (.cells #[v1, v2] t)) B w.heap.size 0 [(v1, l1), (v2, l2)] := by
  have new : ∀ (i : Nat) (u : Value), [v1, v2][i]? = some u → (w.alloc (.cells #[v1, v2] t)).cell? ⟨w.heap.size, 0 + i, none⟩ = some u := fun i u hu => by
    have h := news_at w #[v1, v2] t _ rfl i u hu
    rw [show (⟨w.heap.size, 0, none⟩ : Addr).add i = ⟨w.heap.size, 0 + i, none⟩ by unfold Addr.add; split <;> simp_all] at h
    exact h
  have two : ∀ (i : Nat) (v : Value) (l : List Int), [(v1, l1), (v2, l2)][i]? = some (v, l) → (i = 0 ∧ v = v1 ∧ l = l1) ∨ (i = 1 ∧ v = v2 ∧ l = l2) := fun i v l hi => by
    have := lt_of_get hi
    simp at this
    rcases (by omega : i = 0 ∨ i = 1) with rfl | rfl
    · left; injection hi with hi; injection hi with e1 e2; exact ⟨rfl, e1.symm, e2.symm⟩
    · right; injection hi with hi; injection hi with e1 e2; exact ⟨rfl, e1.symm, e2.symm⟩
  refine ⟨fun i v l hi => ?_, fun i v l hi => ?_, fun i v l hi e => ?_, fun i j v l v' l' hi hj hij g hg hg' => ?_⟩
  · rcases two i v l hi with ⟨rfl, rfl, rfl⟩ | ⟨rfl, rfl, rfl⟩
    · exact new 0 _ rfl
    · exact new 1 _ rfl
  · rcases two i v l hi with ⟨rfl, rfl, rfl⟩ | ⟨rfl, rfl, rfl⟩
    · exact h1.alloc _
    · exact h2.alloc _
  · rcases two i v l hi with ⟨rfl, rfl, rfl⟩ | ⟨rfl, rfl, rfl⟩
    · have := (h1.block _ e).2; omega
    · have := (h2.block _ e).2; omega
  · rcases two i v l hi with ⟨rfl, rfl, rfl⟩ | ⟨rfl, rfl, rfl⟩ <;> rcases two j v' l' hj with ⟨rfl, rfl, rfl⟩ | ⟨rfl, rfl, rfl⟩
    · omega
    · exact hd g hg hg'
    · exact hd g hg' hg
    · omega
theorem numL_len (n size : Int) : (numL n size).length ≤ 8 := by
  unfold numL
  cases h : okN n size
  · simp
  · have := of_decide_eq_true h
    simp [leB_len]
    omega
theorem OwnB.isNil {w : World} {B n c : Nat} {a : Option Addr} {l : List Int} (h : OwnB w B (.slice a n c) l) : a = none → l = [] := fun e => by
  obtain ⟨a', c', e', -, h0, -⟩ := h.shape
  injection e' with e1
  subst e1
  exact (h0 e).2
set_option maxHeartbeats 8000000 in
theorem numbers_law {W : World} (P : P11 W) (x size : Int) (hx : okInt x) (hs : okInt size) (a : Option Addr) (c n : Nat) (l : List Int) (ha : InB W a l) (hB : isB l) (hn : l.length = n) (hc : n ≤ c ∧ c ≤ 140737488351232) (h0 : a = none → c = 0) (at_ : Int) (hat : okInt at_) :
    Calls Tryd.prog 5 #[.int .i64 x, .int .i64 size, .slice a n c, .int .i64 at_] W fun e w' => e = .returned (.bool true) ∧ Below W.heap.size W w' := by
  have HP := Lib.hid (And.intro P (And.intro hx (And.intro hs (And.intro hat (And.intro ha (And.intro hB (And.intro hn h0)))))))
  obtain ⟨hc1, hc2⟩ := hc
  clear P hx hs hat ha hB hn h0
  go_enter Tryd.func5, Tryd.ntmps5
  go_wp2_with fail
  refine (awake11_any HP.out.1 W (Below.refl _ _)).mono ?_
  rintro e w1 ⟨rfl, b1⟩
  have B1 := Lib.hid b1
  clear b1
  go_wp2_with fail
  refine (HP.out.1.number x size w1 B1.out HP.out.2.1 HP.out.2.2.1).mono ?_
  rintro e w2 ⟨v1, rfl, o1, b2⟩
  have N1 := Lib.hid (And.intro o1 (And.intro B1.out.size b2))
  have B2 := Lib.hid (below_then B1.out b2)
  clear b2 o1
  go_wp2_with fail
  refine (HP.out.1.number x size w2 B2.out HP.out.2.1 HP.out.2.2.1).mono ?_
  rintro e w3 ⟨v2, rfl, o2, b3⟩
  have N2 := Lib.hid (And.intro (N1.out.1.then_ b3) (And.intro o2 (And.intro (fun g h1 h2 => by have q1 := (N1.out.1.block g h1).2; have q2 := (o2.block g h2).1; omega : ∀ g, v1.ownBlock = some g → v2.ownBlock ≠ some g) B2.out.size)))
  have B3 := Lib.hid (below_then B2.out b3)
  clear b3 o2
  go_wp2_with fail
  refine (refNumber_any x size HP.out.2.1 w3).mono ?_
  rintro e w4 ⟨v3, rfl, o3, b4⟩
  have N4 := Lib.hid (And.intro (N2.out.1.then_ b4) (And.intro (N2.out.2.1.then_ b4) o3))
  have B4 := Lib.hid (below_then B3.out b4)
  clear b4 o3
  go_wp2_with fail
  refine (slent_any a c n l w4 (HP.out.2.2.2.2.1.then_ B4.out) (fun h => ⟨HP.out.2.2.2.2.2.2.2 h, List.eq_nil_of_length_eq_zero (by have := HP.out.2.2.2.2.2.2.2 h; rw [HP.out.2.2.2.2.2.2.1]; omega)⟩) HP.out.2.2.2.2.2.2.1 (by omega)).mono ?_
  rintro e w5 ⟨rfl, ho, b5⟩
  have O5 := Lib.hid ho
  have N5 := Lib.hid (And.intro (N4.out.1.then_ b5) (And.intro (N4.out.2.1.then_ b5) (N4.out.2.2.then_ b5)))
  have B5 := Lib.hid (below_then B4.out b5)
  clear b5 ho
  go_wp2_with fail
  refine (HP.out.1.read _ _ n l at_ size w5 B5.out O5.out.inB.prefix_ HP.out.2.2.2.2.2.1 HP.out.2.2.2.2.2.2.1 (by omega) (by omega) HP.out.2.2.2.1 HP.out.2.2.1).mono ?_
  rintro e w6 ⟨rfl, b6⟩
  have O6 := Lib.hid (O5.out.then_ b6)
  have N6 := Lib.hid (And.intro (N5.out.1.then_ b6) (And.intro (N5.out.2.1.then_ b6) (N5.out.2.2.then_ b6)))
  have B6 := Lib.hid (below_then B5.out b6)
  clear b6
  go_wp2_with fail
  refine (sback_any w4.heap.size w4.heap.size a c n l w6 O6.out (HP.out.2.2.2.2.1.then_ B6.out) (fun b o e h => by have := HP.out.2.2.2.2.1.lowB b o e h; have := B4.out.size; omega) HP.out.2.2.2.2.2.2.1 (by omega)).mono ?_
  rintro e w7 ⟨rfl, b7⟩
  have off : ∀ (v : Value) (L : List Int) (B : Nat), OwnB w4 B v L → OwnB w6 B v L → OwnB w7 B v L := fun v L B h4 h6 => h6.keep fun g hg => b7.block g (h6.block g hg).2 (by have := (h4.block g hg).2; simp; omega)
  have N7 := Lib.hid (And.intro (off _ _ _ N4.out.1 N6.out.1) (And.intro (off _ _ _ N4.out.2.1 N6.out.2.1) (off _ _ _ N4.out.2.2 N6.out.2.2)))
  have B7 : Hid (Below W.heap.size W w7) := Lib.hid (((Only.of_below (S := []) B6.out).then_ b7 (by intro i hi; simp at hi; subst hi; right; exact B4.out.size)).below)
  clear b7 off
  go_wp2_with fail
  refine (refRead_any a c n l at_ size w7 (HP.out.2.2.2.2.1.then_ B7.out) HP.out.2.2.2.2.2.1 HP.out.2.2.2.2.2.2.1 (by omega) HP.out.2.2.2.1 HP.out.2.2.1).mono ?_
  rintro e w8 ⟨rfl, rfl⟩
  obtain ⟨a1, c1, e1, i1, -⟩ := N7.out.1.shape
  obtain ⟨a2, c2, e2, i2, -⟩ := N7.out.2.1.shape
  obtain ⟨a3, c3, e3, i3, -⟩ := N7.out.2.2.shape
  subst e1 e2 e3
  have s1 := run_str w7 a1 _ c1 _ rfl i1 N7.out.1.isNil
  have s2 := run_str w7 a2 _ c2 _ rfl i2 N7.out.2.1.isNil
  have s3 := run_str w7 a3 _ c3 _ rfl i3 N7.out.2.2.isNil
  have HL := Lib.hid (numL_len x size)
  clear i1 i2 i3
  go_wp2_with fail
  refine (sowned_any W.heap.size w7.heap.size 0 2 2 _ _ _ (rows_two (N7.out.1.base N1.out.2.1) (N7.out.2.1.base (Nat.le_trans N1.out.2.1 (by have := N1.out.2.2.size; omega))) N2.out.2.2.1 22) rfl (fun _ => rfl) (Nat.le_trans B7.out.size (below1 _ _).size) (by simp) (fun i v L hi => by have := List.mem_of_getElem? hi; simp at this; have h := HL.out; rcases this with ⟨-, rfl⟩ | ⟨-, rfl⟩ <;> omega) (by omega)).mono ?_
  rintro e w9 ⟨rfl, b9⟩
  have B9 := Lib.hid ((B7.out.trans ((below1 w7 _).mono B7.out.size)).trans b9)
  clear b9
  go_wp2_with fail
  go_ret
  exact ⟨rfl, B9.out⟩
end Go.Proofs.YtocpbkmflihcnaaDoor
