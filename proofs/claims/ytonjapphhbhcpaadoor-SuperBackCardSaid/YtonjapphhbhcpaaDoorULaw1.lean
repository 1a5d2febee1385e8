/- The law SuperMakes over the contracts. No statement is proved here. -/
import Derived.Test.YtonjapphhbhcpaaDoorJ21
import Derived.Test.YtonjapphhbhcpaaDoorURef2
import Derived.Test.YtonjapphhbhcpaaDoorJ1
import Derived.Test.YtonjapphhbhcpaaDoorSLent
import Derived.Test.YtonjapphhbhcpaaDoorJ2
namespace Go.Proofs.YtonjapphhbhcpaaDoor
open Go.RowKit
set_option maxRecDepth 100000

theorem Only.lower {F : List Nat} {B : Nat} {a w w' : World} (h : Below B a w) (k : Only F w w') (hF : ∀ b ∈ F, B ≤ b) (hB : B ≤ w.heap.size) : Below B a w' :=
  ⟨k.os.trans h.os, k.tape.trans h.tape, k.output.trans h.output, Nat.le_trans h.size k.size, fun i hi => (k.block i (Nat.lt_of_lt_of_le hi hB) fun hn => by have := hF i hn; omega).trans (h.block i hi)⟩
theorem Sup.make_le (s : Sup) : s.make.length ≤ 4096 := by
  cases h : s.ok with
  | false => unfold Sup.make; rw [h]; simp
  | true => rw [Sup.make_len h]; omega
set_option maxHeartbeats 16000000 in
theorem smakes_law {W : World} (P : P14 W) (s : Sup) (hs : s.In) (a : Option Addr) (c n : Nat) (l : List Int) (number : Int) (ha : InB W a l) (hB : isB l) (hn : l.length = n) (hc : n ≤ c ∧ c ≤ 140737488351232) (h0 : a = none → c = 0) (h1 : okInt number) :
    Calls Tryd.prog 3 #[s.arg, .slice a n c, .int .i64 number] W fun e w' => e = .returned (.bool true) ∧ Below W.heap.size W w' := by
  have HP := Lib.hid (And.intro P (And.intro hs (And.intro h1 (And.intro ha (And.intro hB (And.intro hn (fun e => ⟨h0 e, List.eq_nil_of_length_eq_zero (by have := h0 e; omega)⟩ : a = none → c = 0 ∧ l = [])))))))
  obtain ⟨hc1, hc2⟩ := hc
  clear P hs h1 ha hB hn h0
  have HB0 := Lib.hid (below1 W (.cells #[.int .i64 s.ver, .int .i64 s.root, .int .i64 s.ep, .int .i64 s.pag] 23))
  have HX0 := Lib.hid (heap_alloc_new W (.cells #[.int .i64 s.ver, .int .i64 s.root, .int .i64 s.ep, .int .i64 s.pag] 23))
  show Calls _ _ #[.agg #[.int .i64 s.ver, .int .i64 s.root, .int .i64 s.ep, .int .i64 s.pag], _, _] _ _
  go_enter Tryd.func3, Tryd.ntmps3
  go_wp2_with fail
  refine (awake14_any HP.out.1 _ HB0.out).mono ?_
  rintro e w1 ⟨rfl, b1⟩
  have B1 := Lib.hid (below_then HB0.out b1)
  have X1 := Lib.hid (row_then HX0.out b1)
  obtain ⟨c0, c1, c2, c3⟩ := box4_cells X1.out
  clear b1
  go_wp2_with fail
  refine (HP.out.1.make s w1 B1.out HP.out.2.1).mono ?_
  rintro e w2 ⟨v1, rfl, o1, b2⟩
  have N2 := Lib.hid (o1.base B1.out.size)
  have B2 := Lib.hid (below_then B1.out b2)
  have X2 := Lib.hid (row_then X1.out b2)
  have Z2 := Lib.hid o1.block
  obtain ⟨d0, d1, d2, d3⟩ := box4_cells X2.out
  clear b2 o1 c0 c1 c2 c3
  go_wp2_with fail
  refine (HP.out.1.make s w2 B2.out HP.out.2.1).mono ?_
  rintro e w3 ⟨v2, rfl, o2, b3⟩
  have N3 := Lib.hid (And.intro (N2.out.then_ b3) (And.intro (o2.base B2.out.size) (fun g h1 h2 => by have q1 := (N2.out.block g h1).2; have q2 := (o2.block g h2).1; omega : ∀ g, v1.ownBlock = some g → v2.ownBlock ≠ some g)))
  have B3 := Lib.hid (below_then B2.out b3)
  have X3 := Lib.hid (row_then X2.out b3)
  obtain ⟨c0, c1, c2, c3⟩ := box4_cells X3.out
  clear b3 o2 d0 d1 d2 d3
  go_wp2_with fail
  refine (rmake14_any s HP.out.2.1 w3).mono ?_
  rintro e w4 ⟨v3, rfl, o3, b4⟩
  have N4 := Lib.hid (And.intro (N3.out.1.then_ b4) (And.intro (N3.out.2.1.then_ b4) (And.intro (o3.base B3.out.size) N3.out.2.2)))
  have B4 := Lib.hid (below_then B3.out b4)
  clear b4 o3 c0 c1 c2 c3 N2 N3 Z2
  go_wp2_with fail
  refine (slent_any a c n l w4 (HP.out.2.2.2.1.then_ B4.out) HP.out.2.2.2.2.2.2 HP.out.2.2.2.2.2.1 (by omega)).mono ?_
  rintro e w5 ⟨rfl, ho, b5⟩
  have O5 := Lib.hid ho
  have B5 := Lib.hid (below_then B4.out b5)
  have N5 := Lib.hid (And.intro (N4.out.1.then_ b5) (And.intro (N4.out.2.1.then_ b5) (N4.out.2.2.1.then_ b5)))
  have L5 := Lib.hid (ho.block _ rfl)
  clear b5 ho
  go_wp2_with fail
  refine (HP.out.1.opens number _ n (n + 3) l w5 B5.out HP.out.2.2.1 O5.out.inB.prefix_ HP.out.2.2.2.2.1 HP.out.2.2.2.2.2.1 (by omega) (Nat.le_trans (by omega : n + 3 ≤ 140737488355328) (by decide)) (by omega) (fun e => by cases e)).mono ?_
  rintro e w6 ⟨rfl, b6⟩
  obtain ⟨T, hT⟩ : ∃ T, sopS l number = T := ⟨_, rfl⟩
  obtain ⟨te, hte⟩ : ∃ te, sopE l number = te := ⟨_, rfl⟩
  have HT := Lib.hid (And.intro hT hte)
  rw [hT, hte]
  clear hT hte
  have b66 := below_then b6 (below1 w6 (.cells #[.int .i64 T.ver, .int .i64 T.root, .int .i64 T.ep, .int .i64 T.pag] 23))
  have O6 := Lib.hid (O5.out.then_ b66)
  have B6 := Lib.hid (below_then B5.out b66)
  have N6 := Lib.hid (And.intro (N5.out.1.then_ b66) (And.intro (N5.out.2.1.then_ b66) (N5.out.2.2.then_ b66)))
  have XT := Lib.hid (heap_alloc_new w6 (.cells #[.int .i64 T.ver, .int .i64 T.root, .int .i64 T.ep, .int .i64 T.pag] 23))
  have L6 : Hid (w4.heap.size < w6.heap.size) := Lib.hid (Nat.lt_of_lt_of_le L5.out.2 b6.size)
  clear b6 b66
  unfold Sup.arg Sup.cells
  go_wp2_with fail
  refine (sback_any w4.heap.size w4.heap.size a c n l _ O6.out (HP.out.2.2.2.1.then_ B6.out) (fun b o e h => by have := HP.out.2.2.2.1.lowB b o e h; have := B4.out.size; omega) HP.out.2.2.2.2.2.1 (by omega)).mono ?_
  rintro e w7 ⟨rfl, o7⟩
  have hsz : ∀ v r, OwnB (w6.alloc (.cells #[.int .i64 T.ver, .int .i64 T.root, .int .i64 T.ep, .int .i64 T.pag] 23)) W.heap.size v r → (∀ g, v.ownBlock = some g → g < w4.heap.size) → OwnB w7 W.heap.size v r := fun v r hv hg => hv.keep fun g e => o7.block g (hv.block g e).2 (by have := hg g e; simp; omega)
  have N7 := Lib.hid (And.intro (hsz _ _ N6.out.1 fun g e => (N4.out.1.block g e).2) (And.intro (hsz _ _ N6.out.2.1 fun g e => (N4.out.2.1.block g e).2) (hsz _ _ N6.out.2.2 fun g e => (N4.out.2.2.1.block g e).2)))
  have B7 : Hid (Below W.heap.size W w7) := Lib.hid (Only.lower B6.out o7 (by intro i hi; simp at hi; subst hi; exact B4.out.size) B6.out.size)
  have XT7 := Lib.hid ((o7.block w6.heap.size (lt_of_block XT.out) (by have := L6.out; simp; omega)).trans XT.out)
  clear o7 hsz
  go_wp2_with fail
  refine (ropen14_any number a n c l w7 HP.out.2.2.1 (HP.out.2.2.2.1.then_ B7.out) HP.out.2.2.2.2.1 HP.out.2.2.2.2.2.1 hc1 (by omega)).mono ?_
  rintro e w8 ⟨rfl, b8⟩
  rw [HT.out.1, HT.out.2]
  have b88 := below_then b8 (below1 w8 (.cells #[.int .i64 T.ver, .int .i64 T.root, .int .i64 T.ep, .int .i64 T.pag] 23))
  have B8 := Lib.hid (below_then B7.out b88)
  have N8 := Lib.hid (And.intro (N7.out.1.then_ b88) (And.intro (N7.out.2.1.then_ b88) (N7.out.2.2.then_ b88)))
  obtain ⟨t0, t1, t2, t3⟩ := box4_cells (row_then XT7.out b88)
  obtain ⟨u0, u1, u2, u3⟩ := box4_cells (heap_alloc_new w8 (.cells #[.int .i64 T.ver, .int .i64 T.root, .int .i64 T.ep, .int .i64 T.pag] 23))
  clear b8 b88
  obtain ⟨a1, q1, e1, i1, -⟩ := N8.out.1.shape
  obtain ⟨a2, q2, e2, i2, -⟩ := N8.out.2.1.shape
  obtain ⟨a3, q3, e3, i3, -⟩ := N8.out.2.2.shape
  subst e1 e2 e3
  have s1 := run_str _ a1 _ q1 _ rfl i1 N8.out.1.isNil
  have s2 := run_str _ a2 _ q2 _ rfl i2 N8.out.2.1.isNil
  have s3 := run_str _ a3 _ q3 _ rfl i3 N8.out.2.2.isNil
  have hne := fun W => sup_neq T.ver T.root T.ep T.pag T.ver T.root T.ep T.pag W
  have hge := fun op x y a b W => sup_eqg op x y a b W
  simp only [and_self, decide_true, Bool.not_true] at hne
  unfold Sup.arg Sup.cells
  clear i1 i2 i3
  go_wp2_with fail
  refine (sowned_any W.heap.size (w8.heap.size + 1) 0 2 2 _ _ _ (by
    have h := rows_two N8.out.1 N8.out.2.1 N4.out.2.2.2 24
    simpa using h) rfl (fun _ => rfl) (Nat.le_trans B8.out.size (below1 _ _).size) (by simp) (fun i v L hi => by have := List.mem_of_getElem? hi; simp at this; have h := s.make_le; rcases this with ⟨-, rfl⟩ | ⟨-, rfl⟩ <;> omega) (by omega)).mono ?_
  rintro e w9 ⟨rfl, b9⟩
  have B9 := Lib.hid ((B8.out.trans ((below1 _ _).mono B8.out.size)).trans b9)
  clear b9
  go_wp2_with fail
  go_ret
  exact ⟨rfl, B9.out⟩
end Go.Proofs.YtonjapphhbhcpaaDoor
