/- The laws SumAdds and SumJoins over the contracts. No statement is proved here. -/
import Derived.Test.YtocpbkmflihcnaaDoorSEnv
namespace Go.Proofs.YtocpbkmflihcnaaDoor
open Go.RowKit
set_option maxRecDepth 100000

theorem InB.lowB {w : World} {a : Option Addr} {l : List Int} (h : InB w a l) : ∀ b o, a = some (⟨b, o, none⟩ : Addr) → 1 ≤ l.length → b < w.heap.size := by
  intro b o e hl
  obtain ⟨b', o', x, e', -, hc⟩ := h.one (i := 0) (by omega)
  rw [e] at e'
  injection e' with e'
  injection e' with e1 e2
  subst e1
  exact cell_lt hc
set_option maxHeartbeats 4000000 in
theorem adds_law {W : World} (P : P11 W) (s : Int) (hs : okInt s) (a : Option Addr) (c n : Nat) (l : List Int) (ha : InB W a l) (hB : isB l) (hn : l.length = n) (hc : n ≤ c ∧ c ≤ 140737488351232) (h0 : a = none → c = 0) :
    Calls Tryd.prog 3 #[.int .i64 s, .slice a n c] W fun e w' => e = .returned (.bool true) ∧ Below W.heap.size W w' := by
  have HP := Lib.hid (And.intro P (And.intro hs (And.intro ha (And.intro hB (And.intro hn h0)))))
  obtain ⟨hc1, hc2⟩ := hc
  clear P hs ha hB hn h0
  go_enter Tryd.func3, Tryd.ntmps3
  go_wp2_with fail
  refine (awake11_any HP.out.1 W (Below.refl _ _)).mono ?_
  rintro e w1 ⟨rfl, b1⟩
  have B1 := Lib.hid b1
  clear b1
  go_wp2_with fail
  refine (slent_any a c n l w1 (HP.out.2.2.1.then_ B1.out) (fun h => ⟨HP.out.2.2.2.2.2 h, List.eq_nil_of_length_eq_zero (by have := HP.out.2.2.2.2.2 h; rw [HP.out.2.2.2.2.1]; omega)⟩) HP.out.2.2.2.2.1 (by omega)).mono ?_
  rintro e w2 ⟨rfl, ho, b2⟩
  have hin := Lib.hid ho.inB.prefix_
  have O2 := Lib.hid ho
  have B2 := Lib.hid (below_then B1.out b2)
  have hz2 := Lib.hid (ho.block _ rfl)
  have hz1 := b2.size
  clear b2 ho
  go_wp2_with fail
  refine (HP.out.1.sum _ _ n l w2 B2.out hin.out HP.out.2.2.2.1 HP.out.2.2.2.2.1 (by omega)).mono ?_
  rintro e w3 ⟨rfl, b3⟩
  have B3 := Lib.hid (below_then B2.out b3)
  have O3 := Lib.hid (O2.out.then_ b3)
  have I3 := Lib.hid (hin.out.then_ b3)
  clear b3
  go_wp2_with fail
  refine (HP.out.1.more s _ _ n l w3 B3.out I3.out HP.out.2.2.2.1 HP.out.2.2.2.2.1 (by omega) HP.out.2.1).mono ?_
  rintro e w4 ⟨rfl, b4⟩
  have B4 := Lib.hid (below_then B3.out b4)
  have O4 := Lib.hid (O3.out.then_ b4)
  clear b4
  go_wp2_with fail
  refine (sback_any w1.heap.size w1.heap.size a c n l w4 O4.out (HP.out.2.2.1.then_ B4.out) (fun b o e h => by have := HP.out.2.2.1.lowB b o e h; have := B1.out.size; omega) HP.out.2.2.2.2.1 (by omega)).mono ?_
  rintro e w5 ⟨rfl, b5⟩
  have B5 : Hid (Below W.heap.size W w5) := Lib.hid (((Only.of_below (S := []) B4.out).then_ b5 (by intro i hi; simp at hi; subst hi; right; exact B1.out.size)).below)
  clear b5
  go_wp2_with fail
  refine (refMore_any s a c n l w5 (HP.out.2.2.1.then_ B5.out) HP.out.2.2.2.1 HP.out.2.2.2.2.1 (by omega)).mono ?_
  rintro e w6 ⟨rfl, rfl⟩
  go_wp2_with fail
  refine (refSum_any a c n l w5 (HP.out.2.2.1.then_ B5.out) HP.out.2.2.2.1 HP.out.2.2.2.2.1 (by omega)).mono ?_
  rintro e w6 ⟨rfl, rfl⟩
  go_wp2_with fail
  go_ret
  exact ⟨ret_bool (by simp), B5.out⟩
set_option maxHeartbeats 4000000 in
theorem joins_law {W : World} (P : P11 W) (x y n : Int) (hx : okInt x) (hy : okInt y) (hn : okInt n) :
    Calls Tryd.prog 4 #[.int .i64 x, .int .i64 y, .int .i64 n] W fun e w' => e = .returned (.bool true) ∧ Below W.heap.size W w' := by
  have HP := Lib.hid (And.intro P (And.intro hx (And.intro hy hn)))
  clear P hx hy hn
  go_enter Tryd.func4, Tryd.ntmps4
  go_wp2_with fail
  refine (awake11_any HP.out.1 W (Below.refl _ _)).mono ?_
  rintro e w1 ⟨rfl, b1⟩
  have B1 := Lib.hid b1
  clear b1
  go_wp2_with fail
  refine (HP.out.1.join x y n w1 B1.out HP.out.2.1 HP.out.2.2.1 HP.out.2.2.2).mono ?_
  rintro e w2 ⟨rfl, b2⟩
  have B2 := Lib.hid (below_then B1.out b2)
  clear b2
  go_wp2_with fail
  refine (refJoin_any x y n HP.out.2.1 HP.out.2.2.1 HP.out.2.2.2 w2).mono ?_
  rintro e w3 ⟨rfl, b3⟩
  have B3 := Lib.hid (below_then B2.out b3)
  clear b3
  go_wp2_with fail
  go_ret
  exact ⟨ret_bool (by simp), B3.out⟩
end Go.Proofs.YtocpbkmflihcnaaDoor
