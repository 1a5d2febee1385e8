/- The law SuperChooses over the contracts. No statement is proved here. -/
import Derived.Test.YtonjapphhbhcpaaDoorULaw1
namespace Go.Proofs.YtonjapphhbhcpaaDoor
open Go.RowKit
set_option maxRecDepth 100000

set_option maxHeartbeats 16000000 in
theorem schooses_law {W : World} (P : P14 W) (a : Option Addr) (c n : Nat) (l : List Int) (b : Option Addr) (d m : Nat) (r : List Int) (ha : InB W a l) (hB : isB l) (hn : l.length = n) (hc : n ≤ c ∧ c ≤ 140737488351232) (h0 : a = none → c = 0)
    (hb : InB W b r) (hBr : isB r) (hm : r.length = m) (hd : m ≤ d ∧ d ≤ 140737488351232) (g0 : b = none → d = 0) :
    Calls Tryd.prog 4 #[.slice a n c, .slice b m d] W fun e w' => e = .returned (.bool true) ∧ Below W.heap.size W w' := by
  have HP := Lib.hid (And.intro P (And.intro ha (And.intro hB (And.intro hn (fun e => ⟨h0 e, List.eq_nil_of_length_eq_zero (by have := h0 e; omega)⟩ : a = none → c = 0 ∧ l = [])))))
  have HR := Lib.hid (And.intro hb (And.intro hBr (And.intro hm (fun e => ⟨g0 e, List.eq_nil_of_length_eq_zero (by have := g0 e; omega)⟩ : b = none → d = 0 ∧ r = []))))
  obtain ⟨hc1, hc2⟩ := hc
  obtain ⟨hd1, hd2⟩ := hd
  clear P ha hB hn h0 hb hBr hm g0
  go_enter Tryd.func4, Tryd.ntmps4
  go_wp2_with fail
  refine (awake14_any HP.out.1 _ (Below.refl _ _)).mono ?_
  rintro e w1 ⟨rfl, b1⟩
  have B1 := Lib.hid b1
  clear b1
  go_wp2_with fail
  refine (slent_any a c n l w1 (HP.out.2.1.then_ B1.out) HP.out.2.2.2.2 HP.out.2.2.2.1 (by omega)).mono ?_
  rintro e w2 ⟨rfl, ho, b2⟩
  have O2 := Lib.hid ho
  have B2 := Lib.hid (below_then B1.out b2)
  have L2 := Lib.hid (ho.block _ rfl)
  clear b2 ho
  go_wp2_with fail
  refine (slent_any b d m r w2 (HR.out.1.then_ B2.out) HR.out.2.2.2 HR.out.2.2.1 (by omega)).mono ?_
  rintro e w3 ⟨rfl, ho, b3⟩
  have O3 := Lib.hid (And.intro (O2.out.then_ b3) ho)
  have B3 := Lib.hid (below_then B2.out b3)
  have L3 := Lib.hid (ho.block _ rfl)
  clear b3 ho
  go_wp2_with fail
  refine (HP.out.1.choose _ n (n + 3) l _ m (m + 3) r w3 B3.out O3.out.1.inB.prefix_ HP.out.2.2.1 HP.out.2.2.2.1 (by omega) (Nat.le_trans (by omega : n + 3 ≤ 140737488355328) (by decide)) (by omega) (fun e => by cases e) O3.out.2.inB.prefix_ HR.out.2.1 HR.out.2.2.1 (by omega) (Nat.le_trans (by omega : m + 3 ≤ 140737488355328) (by decide)) (by omega) (fun e => by cases e)).mono ?_
  rintro e w4 ⟨rfl, b4⟩
  obtain ⟨T, hT⟩ : ∃ T, chS l r = T := ⟨_, rfl⟩
  obtain ⟨te, hte⟩ : ∃ te, chE l r = te := ⟨_, rfl⟩
  have HT := Lib.hid (And.intro hT hte)
  rw [hT, hte]
  clear hT hte
  have b44 := below_then b4 (below1 w4 (.cells #[.int .i64 T.ver, .int .i64 T.root, .int .i64 T.ep, .int .i64 T.pag] 23))
  have O4 := Lib.hid (And.intro (O3.out.1.then_ b44) (O3.out.2.then_ b44))
  have B4 := Lib.hid (below_then B3.out b44)
  have XT := Lib.hid (heap_alloc_new w4 (.cells #[.int .i64 T.ver, .int .i64 T.root, .int .i64 T.ep, .int .i64 T.pag] 23))
  have L4 : Hid (w1.heap.size < w4.heap.size ∧ w2.heap.size < w4.heap.size ∧ w1.heap.size < w2.heap.size) := Lib.hid ⟨Nat.lt_of_lt_of_le (Nat.lt_trans L2.out.2 L3.out.2) b4.size, Nat.lt_of_lt_of_le L3.out.2 b4.size, L2.out.2⟩
  clear b4 b44
  unfold Sup.arg Sup.cells
  go_wp2_with fail
  refine (sback_any w1.heap.size w1.heap.size a c n l _ O4.out.1 (HP.out.2.1.then_ B4.out) (fun b o e h => by have := HP.out.2.1.lowB b o e h; have := B1.out.size; omega) HP.out.2.2.2.1 (by omega)).mono ?_
  rintro e w5 ⟨rfl, o5⟩
  have O5 := Lib.hid (O4.out.2.keep (w' := w5) fun g hg => o5.block g (O4.out.2.block g hg).2 (by have e : w2.heap.size = g := (by simpa [Value.ownBlock] using hg); have := L4.out.2.2; simp; omega))
  have B5 : Hid (Below W.heap.size W w5) := Lib.hid (Only.lower B4.out o5 (by intro i hi; simp at hi; subst hi; exact B1.out.size) B4.out.size)
  have XT5 := Lib.hid ((o5.block w4.heap.size (lt_of_block XT.out) (by have := L4.out.1; simp; omega)).trans XT.out)
  clear o5
  go_wp2_with fail
  refine (sback_any w2.heap.size w2.heap.size b d m r w5 O5.out (HR.out.1.then_ B5.out) (fun b o e h => by have := HR.out.1.lowB b o e h; have := B2.out.size; omega) HR.out.2.2.1 (by omega)).mono ?_
  rintro e w6 ⟨rfl, o6⟩
  have B6 : Hid (Below W.heap.size W w6) := Lib.hid (Only.lower B5.out o6 (by intro i hi; simp at hi; subst hi; exact B2.out.size) B5.out.size)
  have XT6 := Lib.hid ((o6.block w4.heap.size (lt_of_block XT5.out) (by have := L4.out.2.1; simp; omega)).trans XT5.out)
  clear o6
  go_wp2_with fail
  refine (rchoose_any a n c l b m d r w6 (HP.out.2.1.then_ B6.out) HP.out.2.2.1 HP.out.2.2.2.1 hc1 (by omega) (HR.out.1.then_ B6.out) HR.out.2.1 HR.out.2.2.1 hd1 (by omega)).mono ?_
  rintro e w7 ⟨rfl, b7⟩
  rw [HT.out.1, HT.out.2]
  have b77 := below_then b7 (below1 w7 (.cells #[.int .i64 T.ver, .int .i64 T.root, .int .i64 T.ep, .int .i64 T.pag] 23))
  have B7 := Lib.hid (below_then B6.out b77)
  obtain ⟨t0, t1, t2, t3⟩ := box4_cells (row_then XT6.out b77)
  obtain ⟨u0, u1, u2, u3⟩ := box4_cells (heap_alloc_new w7 (.cells #[.int .i64 T.ver, .int .i64 T.root, .int .i64 T.ep, .int .i64 T.pag] 23))
  clear b7 b77
  have hne := fun W => sup_eql T.ver T.root T.ep T.pag T.ver T.root T.ep T.pag W
  have hge := fun op x y a b W => sup_eqg op x y a b W
  simp only [and_self, decide_true] at hne
  unfold Sup.arg Sup.cells
  go_wp2_with fail
  go_ret
  exact ⟨by simp, B7.out⟩
end Go.Proofs.YtonjapphhbhcpaaDoor
