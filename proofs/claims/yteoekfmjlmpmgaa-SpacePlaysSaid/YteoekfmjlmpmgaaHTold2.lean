/- What both sides tell of their spaces is the same. No statement is proved here. -/
import Derived.Test.YteoekfmjlmpmgaaHTold
namespace Go.Proofs.Yteoekfmjlmpmgaa
open Go.RowKit
set_option maxRecDepth 100000

theorem many_zero : ∀ L : List Int, manyOf 0 L = zerosN L
  | [] => rfl
  | x :: l => by rw [manyOf, zerosN, many_zero l]
theorem Tld.form {Sp : World → List Nat → Nat → List Int → Prop} {W w0 s w : World} {K G : List Nat} {a x : Nat} {L : List Int} {v1 v2 : Value} {l1 l2 : List Int} (h : Tld Sp W w0 s w K G a x L v1 v2 l1 l2) : ∃ a1 c1 a2 c2, v1 = .slice a1 l1.length c1 ∧ v2 = .slice a2 l2.length c2 ∧ InI w a1 l1 ∧ InI w a2 l2 := by
  obtain ⟨a1, c1, e1, i1, -⟩ := h.r1.shape
  obtain ⟨a2, c2, e2, i2, -⟩ := h.r2.shape
  exact ⟨a1, c1, a2, c2, e1, e2, i1, i2⟩
theorem Tld.put1 {Sp : World → List Nat → Nat → List Int → Prop} {W w0 s w : World} {K G : List Nat} {a x : Nat} {L : List Int} {g n c : Nat} {v2 : Value} {l1 l2 : List Int} (P : P13 W Sp) (hW : W.heap.size ≤ w0.heap.size) (h : Tld Sp W w0 s w K G a x L (.slice (some ⟨g, 0, none⟩) n c) v2 l1 l2) (j : Nat) (y : Int) :
    Tld Sp W w0 s (w.setCell ⟨g, j, none⟩ (.int .i64 y)) K G a x L (.slice (some ⟨g, 0, none⟩) n c) v2 (l1.set j y) l2 := by
  obtain ⟨h1, h2⟩ := h.r1.set j y
  exact h.grew1 P hW ⟨h1, h2, .inl rfl⟩
theorem Tld.put2 {Sp : World → List Nat → Nat → List Int → Prop} {W w0 s w : World} {K G : List Nat} {a x : Nat} {L : List Int} {g n c : Nat} {v1 : Value} {l1 l2 : List Int} (P : P13 W Sp) (hW : W.heap.size ≤ w0.heap.size) (h : Tld Sp W w0 s w K G a x L v1 (.slice (some ⟨g, 0, none⟩) n c) l1 l2) (j : Nat) (y : Int) :
    Tld Sp W w0 s (w.setCell ⟨g, j, none⟩ (.int .i64 y)) K G a x L v1 (.slice (some ⟨g, 0, none⟩) n c) l1 (l2.set j y) :=
  (h.swap.put1 P hW j y).swap
theorem OwnI.shapeN {w : World} {B n : Nat} {v : Value} {l : List Int} (h : OwnI w B v l) (hn : l.length = n) : ∃ a c, v = .slice a n c ∧ InI w a l := by
  subst hn
  obtain ⟨a, c, e, i, -⟩ := h.shape
  exact ⟨a, c, e, i⟩
theorem OwnI.inN {w : World} {B n c : Nat} {a : Option Addr} {l : List Int} (h : OwnI w B (.slice a n c) l) : InI w a l := by
  obtain ⟨a', c', e, i, -⟩ := h.shape
  injection e with e
  exact e ▸ i
theorem OwnI.some_ {w : World} {B n c : Nat} {a : Option Addr} {l : List Int} (h : OwnI w B (.slice a n c) l) (hl : 1 ≤ l.length) : ∃ g, a = some ⟨g, 0, none⟩ := by
  obtain ⟨g, d, e, -⟩ := h.form hl
  injection e with e
  exact ⟨g, e⟩
theorem told_last {w : World} {B g n d m : Nat} {l : List Int} {y : Int} (h : OwnI w B (.slice (some ⟨g, 0, none⟩) n d) (l ++ [y])) (hl : l.length = m) : w.cell? ⟨g, m, none⟩ = some (.int .i64 y) :=
  (h.at_ (j := m) (x := y) (by rw [List.getElem?_append_right (by omega), hl, Nat.sub_self]; rfl)).1
set_option maxHeartbeats 16000000 in
theorem told_any {Sp : World → List Nat → Nat → List Int → Prop} {W w0 w : World} {K G : List Nat} {a x : Nat} {L : List Int} (P : P13 W Sp) (hW : W.heap.size ≤ w0.heap.size) (hS : SpK Sp W w0 w K a L) (hR : RSp W.heap.size w G x L) (hG : ∀ g ∈ G, g ∈ K) :
    Calls Try.prog 15 #[.pointer (some ⟨a, 0, none⟩), .pointer (some ⟨x, 0, none⟩)] w fun e w' => e = .returned (.bool true) ∧ SpK Sp W w0 w' K a L ∧ Stay K w w' ∧ w.heap.size ≤ w'.heap.size := by
  have HP := Lib.hid P
  have HS := Lib.hid (And.intro hS (And.intro hR hG))
  have hmax : L.length ≤ 65536 := by obtain ⟨F, h1, -⟩ := hS.sp; exact (P.len h1).2
  have n1 : (areL L 1).length ≤ 65536 := by have h5 := areL_len 1 L; have h6 := many_le 1 L; omega
  have n2 : (areL L 2).length ≤ 65536 := by have h5 := areL_len 2 L; have h6 := many_le 2 L; omega
  clear P hS hR hG
  go_enter Try.func15, Try.ntmps15
  go_wp2_with fail
  refine (HS.out.1.used HP.out hW).mono ?_
  rintro e w1 ⟨v1, v2, rfl, S1, st, o1, o2, hoff, hsz⟩
  have T1 : Hid (Tld Sp W w0 w w1 K G a x L v1 v2 (areL L 1) (areL L 2)) := Lib.hid ⟨S1, o1, o2, HS.out.2.1.keep fun b hb => st b (HS.out.2.2 b hb), HS.out.2.2, hoff, HS.out.1.lt, st, HS.out.1.low.size, hsz⟩
  clear S1 st o1 o2 hoff hsz
  obtain ⟨a1, c1, a2, c2, rfl, rfl, -, -⟩ := T1.out.form
  go_wp2_with fail
  refine (rare_any _ G x L 1 (by unfold okInt; omega) w1 T1.out.ref).mono ?_
  rintro e w2 ⟨v3, rfl, o3, b3⟩
  obtain ⟨a3, c3, rfl, i3, -⟩ := o3.shape
  have T2 := Lib.hid (T1.out.then_ HP.out b3)
  have C3 : Hid (Calls Try.prog 10 #[.slice a1 (areL L 1).length c1, .slice a3 (areL L 1).length c3] w2 fun e w' => e = .returned (.bool true) ∧ Below w2.heap.size w2 w') := Lib.hid (by
    obtain ⟨a1', c1', a2', c2', e1, -, i1, -⟩ := T2.out.form
    injection e1 with e1
    subst e1
    exact same_any _ _ _ _ _ _ _ i1 i3 rfl (by omega))
  clear o3 b3 i3 T1
  go_wp2_with fail
  refine C3.out.mono ?_
  rintro e w3 ⟨rfl, b4⟩
  have T3 := Lib.hid (T2.out.then_ HP.out b4)
  clear b4 T2 C3
  go_wp2_with fail
  refine (rare_any _ G x L 2 (by unfold okInt; omega) w3 T3.out.ref).mono ?_
  rintro e w4 ⟨v4, rfl, o4, b4⟩
  obtain ⟨a4, c4, rfl, i4, -⟩ := o4.shape
  have T4 := Lib.hid (T3.out.then_ HP.out b4)
  have C4 : Hid (Calls Try.prog 10 #[.slice a2 (areL L 2).length c2, .slice a4 (areL L 2).length c4] w4 fun e w' => e = .returned (.bool true) ∧ Below w4.heap.size w4 w') := Lib.hid (by
    obtain ⟨a1', c1', a2', c2', -, e2, -, i2⟩ := T4.out.form
    injection e2 with e2
    subst e2
    exact same_any _ _ _ _ _ _ _ i2 i4 rfl (by omega))
  clear o4 b4 i4 T3
  go_wp2_with fail
  refine C4.out.mono ?_
  rintro e w5 ⟨rfl, b5⟩
  have T5 := Lib.hid (T4.out.then_ HP.out b5)
  clear b5 T4 C4
  generalize hm1 : (areL L 1).length = m1 at *
  generalize hm2 : (areL L 2).length = m2 at *
  go_wp2_with fail
  go_loopw [9] (fun i wr => ∃ (k : Nat) (l : List Int), k ≤ m1 ∧ i = .int .i64 (k : Int) ∧ l.length = m1 ∧ Hid (Tld Sp W w0 w wr K G a x L (.slice a1 m1 c1) (.slice a2 m2 c2) l (areL L 2))) (fun i _ => m1 - (intOf i).toNat)
  case atStart => exact ⟨0, _, Nat.zero_le _, rfl, hm1, T5⟩
  case round =>
    obtain ⟨k, l, hk, rfl, hl, HT⟩ := hrel
    by_cases hlt : k < m1
    · obtain ⟨g1, rfl⟩ := HT.out.r1.some_ (by omega)
      obtain ⟨y, hy⟩ : ∃ y, l[k]? = some y := ⟨_, List.getElem?_eq_getElem (by omega)⟩
      obtain ⟨ck, fk⟩ := HT.out.r1.at_ hy
      have H2 := Lib.hid (HT.out.put1 HP.out hW k (-1))
      clear hy
      go_wp2_with fail
      go_roundw
      case rel => exact ⟨k + 1, _, by omega, by go_num, by rw [List.length_set]; exact hl, H2⟩
      case measure => simp [intOf]; omega
    · clear T5
      go_wp2_with fail
      go_loopw [10] (fun i wr => ∃ (k : Nat) (l2 : List Int), k ≤ m2 ∧ i = .int .i64 (k : Int) ∧ l2.length = m2 ∧ Hid (Tld Sp W w0 w wr K G a x L (.slice a1 m1 c1) (.slice a2 m2 c2) l l2)) (fun i _ => m2 - (intOf i).toNat)
      case atStart => exact ⟨0, _, Nat.zero_le _, rfl, hm2, HT⟩
      case round =>
        obtain ⟨q, l2, hq, rfl, hl2, HU⟩ := hrel
        by_cases hlt2 : q < m2
        · obtain ⟨g2, rfl⟩ := HU.out.r2.some_ (by omega)
          obtain ⟨y, hy⟩ : ∃ y, l2[q]? = some y := ⟨_, List.getElem?_eq_getElem (by omega)⟩
          obtain ⟨ck, fk⟩ := HU.out.r2.at_ hy
          have H2 := Lib.hid (HU.out.put2 HP.out hW q (-2))
          clear hy
          go_wp2_with fail
          go_roundw
          case rel => exact ⟨q + 1, _, by omega, by go_num, by rw [List.length_set]; exact hl2, H2⟩
          case measure => simp [intOf]; omega
        · clear HT
          have hz := HU.out.base.2
          go_wp2_with (first
            | (at_builtin; refine apIL _ rfl (.tmp 48) (.tmp 49) rfl w.heap.size _ _ rfl HU.out.r1 [-1] _ 1 1 rfl rfl rfl rfl (by omega) hz ?_; intro v5 w6 hg; have A5 := Lib.hid (HU.out.grew1 HP.out hW hg); clear hg; obtain ⟨g5, d5, rfl, -⟩ := A5.out.r1.form (by simp))
            | (at_builtin; refine apIL _ rfl (.tmp 51) (.tmp 52) rfl w.heap.size _ _ rfl A5.out.r2 [-2] _ 1 1 rfl rfl rfl rfl (by omega) A5.out.base.2 ?_; intro v6 w7 hg; have A6 := Lib.hid (A5.out.grew2 HP.out hW hg); clear hg; have cl := told_last A6.out.r1 hl))
          clear HU A5 cl hz
          refine (A6.out.sp.used HP.out hW).mono ?_
          rintro e w8 ⟨v7, v8, rfl, S1, st, o1, o2, hoff, hsz⟩
          have T1 : Hid (Tld Sp W w0 w7 w8 K G a x L v7 v8 (areL L 1) (areL L 2) ∧ Stay K w w7 ∧ w.heap.size ≤ w7.heap.size) := Lib.hid ⟨⟨S1.fewer (fun k hk => by simp only [List.mem_append] at hk ⊢; rcases hk with (h1 | h1) | h1; exact .inl (.inl (.inl (.inl h1))); exact .inl (.inr h1); exact .inr h1), o1, o2, A6.out.ref.keep fun b hb => st b (by simp only [List.mem_append]; exact .inl (.inl (A6.out.gk b hb))), A6.out.gk, hoff, fun k hk => Nat.lt_of_lt_of_le (A6.out.kl k hk) A6.out.base.2, fun k hk => st k (by simp only [List.mem_append]; exact .inl (.inl hk)), Nat.le_trans A6.out.base.1 A6.out.base.2, hsz⟩, A6.out.stay, A6.out.base.2⟩
          clear S1 st o1 o2 hoff hsz A6
          obtain ⟨a7, c7, rfl, -⟩ := T1.out.1.r1.shapeN hm1
          obtain ⟨a8, c8, rfl, -⟩ := T1.out.1.r2.shapeN hm2
          go_wp2_with fail
          refine (rare_any _ G x L 1 (by unfold okInt; omega) w8 T1.out.1.ref).mono ?_
          rintro e w9 ⟨v9, rfl, o3, b3⟩
          obtain ⟨a9, c9, rfl, i3⟩ := o3.shapeN hm1
          have T2 := Lib.hid (T1.out.1.then_ HP.out b3)
          have C3 := Lib.hid (same_any a7 a9 m1 c7 c9 (areL L 1) w9 T2.out.r1.inN i3 hm1 (by omega))
          clear o3 b3 i3
          go_wp2_with fail
          refine C3.out.mono ?_
          rintro e w10 ⟨rfl, b4⟩
          have T3 := Lib.hid (T2.out.then_ HP.out b4)
          clear b4 T2 C3
          go_wp2_with fail
          refine (rare_any _ G x L 2 (by unfold okInt; omega) w10 T3.out.ref).mono ?_
          rintro e w11 ⟨v10, rfl, o4, b4⟩
          obtain ⟨a10, c10, rfl, i4⟩ := o4.shapeN hm2
          have T4 := Lib.hid (T3.out.then_ HP.out b4)
          have C4 := Lib.hid (same_any a8 a10 m2 c8 c10 (areL L 2) w11 T4.out.r2.inN i4 hm2 (by omega))
          clear o4 b4 i4 T3
          go_wp2_with fail
          refine C4.out.mono ?_
          rintro e w12 ⟨rfl, b5⟩
          have T5 := Lib.hid (T4.out.then_ HP.out b5)
          clear b5 T4 C4
          go_wp2_with fail
          refine (rare_any _ G x L 0 (by unfold okInt; omega) w12 T5.out.ref).mono ?_
          rintro e w13 ⟨v11, rfl, o5, b6⟩
          obtain ⟨a11, c11, rfl, -⟩ := o5.shapeN ((areL_len 0 L).trans (many_zero L))
          have T6 := Lib.hid (T5.out.then_ HP.out b6)
          have hz6 : zerosN L ≤ 65536 := Nat.le_trans (zeros_le L) hmax
          clear o5 b6 T5
          go_wp2_with fail
          refine (T6.out.sp.stepS hW (fun F hF => HP.out.free F a L _ T6.out.sp.top hF)).mono ?_
          rintro e w14 ⟨rfl, S14, st14, hs14⟩
          have E14 : Hid (SpK Sp W w0 w14 K a L ∧ Stay K w w14 ∧ w.heap.size ≤ w14.heap.size) := Lib.hid ⟨S14.fewer (fun k hk => by simp only [List.mem_append]; exact .inl (.inl hk)), (T1.out.2.1.trans T6.out.stay).trans fun k hk => st14 k (by simp only [List.mem_append]; exact .inl (.inl hk)), Nat.le_trans T1.out.2.2 (Nat.le_trans T6.out.base.2 hs14)⟩
          clear S14 st14 hs14
          go_wp2_with fail
          go_ret
          exact ⟨by simp, E14.out⟩
end Go.Proofs.Yteoekfmjlmpmgaa
