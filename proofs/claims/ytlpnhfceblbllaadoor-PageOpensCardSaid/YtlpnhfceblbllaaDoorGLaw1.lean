/- The laws PageMakes and PageOpens over the contracts. No statement is proved here. -/
import Derived.Test.YtlpnhfceblbllaaDoorGEnv
import Derived.Test.YtlpnhfceblbllaaDoorSLaw2
namespace Go.Proofs.YtlpnhfceblbllaaDoor
open Go.RowKit
set_option maxRecDepth 100000

theorem makeL_len (number kind : Int) (l : List Int) : (makeL number kind l).length ≤ 4096 := by
  unfold makeL
  cases h : okG number kind l.length
  · simp
  · rw [if_pos rfl, pageL_len (okG_yes h).2.2.2.2]; omega
theorem openL_len (l : List Int) (number : Int) : (openL l number).length ≤ 4096 := by
  unfold openL
  split
  · rename_i h
    have hl : l.length = 4096 := by
      unfold openE at h
      split at h
      · assumption
      · exact absurd h (by decide)
    rw [List.length_take, List.length_drop]; omega
  · simp
set_option maxHeartbeats 8000000 in
theorem makes_law {W : World} (P : P12 W) (number kind : Int) (h1 : okInt number) (h2 : okInt kind) (a : Option Addr) (c n : Nat) (l : List Int) (ha : InB W a l) (hB : isB l) (hn : l.length = n) (hc : n ≤ c ∧ c ≤ 140737488351232) (h0 : a = none → c = 0) :
    Calls Tryd.prog 3 #[.int .i64 number, .int .i64 kind, .slice a n c] W fun e w' => e = .returned (.bool true) ∧ Below W.heap.size W w' := by
  have HP := Lib.hid (And.intro P (And.intro h1 (And.intro h2 (And.intro ha (And.intro hB (And.intro hn (fun e => ⟨h0 e, List.eq_nil_of_length_eq_zero (by have := h0 e; omega)⟩ : a = none → c = 0 ∧ l = [])))))))
  obtain ⟨hc1, hc2⟩ := hc
  clear P h1 h2 ha hB hn h0
  go_enter Tryd.func3, Tryd.ntmps3
  go_wp2_with fail
  refine (awake12_any HP.out.1 W (Below.refl _ _)).mono ?_
  rintro e w1 ⟨rfl, b1⟩
  have B1 := Lib.hid b1
  clear b1
  go_wp2_with fail
  refine (slent_any a c n l w1 (HP.out.2.2.2.1.then_ B1.out) HP.out.2.2.2.2.2.2 HP.out.2.2.2.2.2.1 (by omega)).mono ?_
  rintro e w2 ⟨rfl, ho, b2⟩
  have hin := Lib.hid ho.inB.prefix_
  have O2 := Lib.hid ho
  have B2 := Lib.hid (below_then B1.out b2)
  have S12 := Lib.hid b2.size
  clear b2 ho
  go_wp2_with fail
  refine (HP.out.1.make number kind _ n (n + 3) l w2 B2.out HP.out.2.1 HP.out.2.2.1 hin.out HP.out.2.2.2.2.1 HP.out.2.2.2.2.2.1 (by omega) (Nat.le_trans (by omega : n + 3 ≤ 140737488355328) (by decide)) (fun e => by cases e)).mono ?_
  rintro e w3 ⟨v1, rfl, o1, b3⟩
  have N1 := Lib.hid (And.intro o1 (And.intro B2.out.size b3))
  have B3 := Lib.hid (below_then B2.out b3)
  have O3 := Lib.hid (O2.out.then_ b3)
  have I3 := Lib.hid (hin.out.then_ b3)
  clear b3 o1
  go_wp2_with fail
  refine (HP.out.1.make number kind _ n (n + 3) l w3 B3.out HP.out.2.1 HP.out.2.2.1 I3.out HP.out.2.2.2.2.1 HP.out.2.2.2.2.2.1 (by omega) (Nat.le_trans (by omega : n + 3 ≤ 140737488355328) (by decide)) (fun e => by cases e)).mono ?_
  rintro e w4 ⟨v2, rfl, o2, b4⟩
  have N2 := Lib.hid (And.intro (N1.out.1.then_ b4) (And.intro o2 (And.intro (fun g h1 h2 => by have q1 := (N1.out.1.block g h1).2; have q2 := (o2.block g h2).1; omega : ∀ g, v1.ownBlock = some g → v2.ownBlock ≠ some g) B3.out.size)))
  have B4 := Lib.hid (below_then B3.out b4)
  have O4 := Lib.hid (O3.out.then_ b4)
  clear b4 o2
  go_wp2_with fail
  refine (sback_any w1.heap.size w1.heap.size a c n l w4 O4.out (HP.out.2.2.2.1.then_ B4.out) (fun b o e h => by have := HP.out.2.2.2.1.lowB b o e h; have := B1.out.size; omega) HP.out.2.2.2.2.2.1 (by omega)).mono ?_
  rintro e w5 ⟨rfl, b5⟩
  have hlt : w1.heap.size < w2.heap.size := (O2.out.block _ rfl).2
  have N5 := Lib.hid (And.intro (N2.out.1.keep (w' := w5) fun g hg => b5.block g (N2.out.1.block g hg).2 (by have := (N2.out.1.block g hg).1; simp; omega)) (N2.out.2.1.keep (w' := w5) fun g hg => b5.block g (N2.out.2.1.block g hg).2 (by have := (N2.out.2.1.block g hg).1; have := N1.out.2.2.size; simp; omega)))
  have B5 : Hid (Below W.heap.size W w5) := Lib.hid (((Only.of_below (S := []) B4.out).then_ b5 (by intro i hi; simp at hi; subst hi; right; exact B1.out.size)).below)
  clear b5 hlt
  go_wp2_with fail
  refine (refMake_any number kind a n c l w5 HP.out.2.1 HP.out.2.2.1 (HP.out.2.2.2.1.then_ B5.out) HP.out.2.2.2.2.1 HP.out.2.2.2.2.2.1 HP.out.2.2.2.2.2.2).mono ?_
  rintro e w6 ⟨v3, rfl, o3, b6⟩
  have N6 := Lib.hid (And.intro (N5.out.1.then_ b6) (And.intro (N5.out.2.then_ b6) o3))
  have B6 := Lib.hid (below_then B5.out b6)
  clear b6 o3
  have HEn := Lib.hid (show makeE number kind l.length = makeE number kind n by rw [HP.out.2.2.2.2.2.1])
  rw [HEn.out]
  obtain ⟨a1, c1, e1, i1, -⟩ := N6.out.1.shape
  obtain ⟨a2, c2, e2, i2, -⟩ := N6.out.2.1.shape
  obtain ⟨a3, c3, e3, i3, -⟩ := N6.out.2.2.shape
  subst e1 e2 e3
  have s1 := run_str w6 a1 _ c1 _ rfl i1 N6.out.1.isNil
  have s2 := run_str w6 a2 _ c2 _ rfl i2 N6.out.2.1.isNil
  have s3 := run_str w6 a3 _ c3 _ rfl i3 N6.out.2.2.isNil
  have HL := Lib.hid (makeL_len number kind l)
  clear i1 i2 i3
  go_wp2_with fail
  refine (sowned_any W.heap.size w6.heap.size 0 2 2 _ _ _ (rows_two (N6.out.1.base N1.out.2.1) (N6.out.2.1.base (Nat.le_trans N1.out.2.1 (by have := N1.out.2.2.size; omega))) N2.out.2.2.1 22) rfl (fun _ => rfl) (Nat.le_trans B6.out.size (below1 _ _).size) (by simp) (fun i v L hi => by have := List.mem_of_getElem? hi; simp at this; have h := HL.out; rcases this with ⟨-, rfl⟩ | ⟨-, rfl⟩ <;> omega) (by omega)).mono ?_
  rintro e w9 ⟨rfl, b9⟩
  have B9 := Lib.hid ((B6.out.trans ((below1 w6 _).mono B6.out.size)).trans b9)
  clear b9
  go_wp2_with fail
  go_ret
  exact ⟨rfl, B9.out⟩
set_option maxHeartbeats 8000000 in
theorem opens_law {W : World} (P : P12 W) (number : Int) (h1 : okInt number) (a : Option Addr) (c n : Nat) (l : List Int) (ha : InB W a l) (hB : isB l) (hn : l.length = n) (hc : n ≤ c ∧ c ≤ 140737488351232) (h0 : a = none → c = 0) :
    Calls Tryd.prog 4 #[.slice a n c, .int .i64 number] W fun e w' => e = .returned (.bool true) ∧ Below W.heap.size W w' := by
  have HP := Lib.hid (And.intro P (And.intro h1 (And.intro h1 (And.intro ha (And.intro hB (And.intro hn (fun e => ⟨h0 e, List.eq_nil_of_length_eq_zero (by have := h0 e; omega)⟩ : a = none → c = 0 ∧ l = [])))))))
  obtain ⟨hc1, hc2⟩ := hc
  clear P h1 ha hB hn h0
  go_enter Tryd.func4, Tryd.ntmps4
  go_wp2_with fail
  refine (awake12_any HP.out.1 W (Below.refl _ _)).mono ?_
  rintro e w1 ⟨rfl, b1⟩
  have B1 := Lib.hid b1
  clear b1
  go_wp2_with fail
  refine (slent_any a c n l w1 (HP.out.2.2.2.1.then_ B1.out) HP.out.2.2.2.2.2.2 HP.out.2.2.2.2.2.1 (by omega)).mono ?_
  rintro e w2 ⟨rfl, ho, b2⟩
  have hin := Lib.hid ho.inB.prefix_
  have O2 := Lib.hid ho
  have B2 := Lib.hid (below_then B1.out b2)
  have S12 := Lib.hid b2.size
  clear b2 ho
  go_wp2_with fail
  refine (HP.out.1.opens number _ n (n + 3) l w2 B2.out HP.out.2.1 hin.out HP.out.2.2.2.2.1 HP.out.2.2.2.2.2.1 (by omega) (Nat.le_trans (by omega : n + 3 ≤ 140737488355328) (by decide)) (fun e => by cases e)).mono ?_
  rintro e w3 ⟨v1, rfl, o1, b3⟩
  have N1 := Lib.hid (And.intro o1 (And.intro B2.out.size b3))
  have B3 := Lib.hid (below_then B2.out b3)
  have O3 := Lib.hid (O2.out.then_ b3)
  have I3 := Lib.hid (hin.out.then_ b3)
  clear b3 o1
  go_wp2_with fail
  refine (HP.out.1.opens number _ n (n + 3) l w3 B3.out HP.out.2.1 I3.out HP.out.2.2.2.2.1 HP.out.2.2.2.2.2.1 (by omega) (Nat.le_trans (by omega : n + 3 ≤ 140737488355328) (by decide)) (fun e => by cases e)).mono ?_
  rintro e w4 ⟨v2, rfl, o2, b4⟩
  have N2 := Lib.hid (And.intro (N1.out.1.then_ b4) (And.intro o2 (And.intro (fun g h1 h2 => by have q1 := (N1.out.1.block g h1).2; have q2 := (o2.block g h2).1; omega : ∀ g, v1.ownBlock = some g → v2.ownBlock ≠ some g) B3.out.size)))
  have B4 := Lib.hid (below_then B3.out b4)
  have O4 := Lib.hid (O3.out.then_ b4)
  clear b4 o2
  go_wp2_with fail
  refine (sback_any w1.heap.size w1.heap.size a c n l w4 O4.out (HP.out.2.2.2.1.then_ B4.out) (fun b o e h => by have := HP.out.2.2.2.1.lowB b o e h; have := B1.out.size; omega) HP.out.2.2.2.2.2.1 (by omega)).mono ?_
  rintro e w5 ⟨rfl, b5⟩
  have hlt : w1.heap.size < w2.heap.size := (O2.out.block _ rfl).2
  have N5 := Lib.hid (And.intro (N2.out.1.keep (w' := w5) fun g hg => b5.block g (N2.out.1.block g hg).2 (by have := (N2.out.1.block g hg).1; simp; omega)) (N2.out.2.1.keep (w' := w5) fun g hg => b5.block g (N2.out.2.1.block g hg).2 (by have := (N2.out.2.1.block g hg).1; have := N1.out.2.2.size; simp; omega)))
  have B5 : Hid (Below W.heap.size W w5) := Lib.hid (((Only.of_below (S := []) B4.out).then_ b5 (by intro i hi; simp at hi; subst hi; right; exact B1.out.size)).below)
  clear b5 hlt
  go_wp2_with fail
  refine (refOpen_any number a n c l w5 HP.out.2.1 (HP.out.2.2.2.1.then_ B5.out) HP.out.2.2.2.2.1 HP.out.2.2.2.2.2.1 hc1 (by omega)).mono ?_
  rintro e w6 ⟨v3, rfl, o3, b6⟩
  have N6 := Lib.hid (And.intro (N5.out.1.then_ b6) (And.intro (N5.out.2.then_ b6) o3))
  have B6 := Lib.hid (below_then B5.out b6)
  clear b6 o3
  obtain ⟨a1, c1, e1, i1, -⟩ := N6.out.1.shape
  obtain ⟨a2, c2, e2, i2, -⟩ := N6.out.2.1.shape
  obtain ⟨a3, c3, e3, i3, -⟩ := N6.out.2.2.shape
  subst e1 e2 e3
  have s1 := run_str w6 a1 _ c1 _ rfl i1 N6.out.1.isNil
  have s2 := run_str w6 a2 _ c2 _ rfl i2 N6.out.2.1.isNil
  have s3 := run_str w6 a3 _ c3 _ rfl i3 N6.out.2.2.isNil
  have HL := Lib.hid (openL_len l number)
  clear i1 i2 i3
  go_wp2_with fail
  refine (sowned_any W.heap.size w6.heap.size 0 2 2 _ _ _ (rows_two (N6.out.1.base N1.out.2.1) (N6.out.2.1.base (Nat.le_trans N1.out.2.1 (by have := N1.out.2.2.size; omega))) N2.out.2.2.1 22) rfl (fun _ => rfl) (Nat.le_trans B6.out.size (below1 _ _).size) (by simp) (fun i v L hi => by have := List.mem_of_getElem? hi; simp at this; have h := HL.out; rcases this with ⟨-, rfl⟩ | ⟨-, rfl⟩ <;> omega) (by omega)).mono ?_
  rintro e w9 ⟨rfl, b9⟩
  have B9 := Lib.hid ((B6.out.trans ((below1 w6 _).mono B6.out.size)).trans b9)
  clear b9
  go_wp2_with fail
  go_ret
  exact ⟨rfl, B9.out⟩
end Go.Proofs.YtlpnhfceblbllaaDoor
