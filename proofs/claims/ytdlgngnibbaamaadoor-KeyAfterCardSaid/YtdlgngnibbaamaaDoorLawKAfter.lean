/- The law KeyAfter over its contracts: no statement is proved here. -/
import Derived.Test.YtdlgngnibbaamaaDoorKAwake
import Derived.Test.YtdlgngnibbaamaaDoorKLent
namespace Go.Proofs.YtdlgngnibbaamaaDoor
open Go.RowKit
set_option maxRecDepth 100000

theorem cmpB_zero : ∀ {x y : List Int}, cmpB x y = 0 → x = y := by
  intro x
  induction x with
  | nil => intro y h; cases y with
    | nil => rfl
    | cons => simp [cmpB, lex] at h
  | cons a x ih =>
    intro y h
    cases y with
    | nil => simp [cmpB, lex] at h
    | cons b y =>
      unfold cmpB lex at h
      split at h
      · rename_i h1
        have e : a = b := by unfold cmpI at h1; split at h1; omega; split at h1 <;> omega
        rw [e, ih h]
      · rename_i h1
        exact absurd h h1
theorem cmpB_cons (x y : Int) (p q : List Int) : cmpB (x :: p) (y :: q) = if x = y then cmpB p q else if x < y then -1 else 1 := by
  unfold cmpB
  rw [lex]
  unfold cmpI
  by_cases h1 : x = y
  · subst h1; simp
  · by_cases h2 : x < y
    · simp [h1, h2]
    · have h3 : y < x := by omega
      simp [h1, h2, h3]
theorem cmpB_nil_cons (y : Int) (q : List Int) : cmpB [] (y :: q) = -1 := rfl
theorem cmpB_cons_nil (y : Int) (q : List Int) : cmpB (y :: q) [] = 1 := rfl
theorem full_pre (n : Nat) : ∀ c : List Int, isB c → (List.replicate n (255 : Int) <+: c ↔ cmpB (List.replicate n 255) c ≤ 0) := by
  induction n with
  | zero => intro c _; cases c <;> simp [cmpB, lex]
  | succ n ih =>
    intro c hc
    rw [List.replicate_succ]
    cases c with
    | nil => simp [cmpB, lex]
    | cons z c =>
      have h := hc z (by simp)
      rw [List.cons_prefix_cons, cmpB_cons, ih c (fun x hx => hc x (by simp [hx]))]
      by_cases e : 255 = z
      · simp [e]
      · have : ¬ 255 < z := by omega
        simp [e, this]
theorem pre_after (x : Int) (n : Nat) (p : List Int) : ∀ c : List Int, isB c → (p ++ x :: List.replicate n (255 : Int) <+: c ↔ (cmpB (p ++ x :: List.replicate n 255) c ≤ 0 ∧ cmpB c (p ++ [x + 1]) < 0)) := by
  induction p with
  | nil =>
    intro c hc
    cases c with
    | nil => simp [cmpB, lex]
    | cons z c =>
      have hf := full_pre n c (fun x hx => hc x (by simp [hx]))
      simp only [List.nil_append]
      rw [List.cons_prefix_cons, cmpB_cons, cmpB_cons, hf]
      by_cases e : x = z
      · subst e
        have : ¬ x = x + 1 := by omega
        have h2 : x < x + 1 := by omega
        simp [this, h2]
      · simp only [e, false_and, false_iff, not_and]
        intro h1
        have hlt : x < z := by
          by_cases h : x < z
          · exact h
          · simp [h] at h1
        by_cases e2 : z = x + 1
        · rw [if_pos e2]; cases c <;> simp [cmpB, lex]
        · have : ¬ z < x + 1 := by omega
          simp [e2, this]
  | cons y p ih =>
    intro c hc
    cases c with
    | nil => simp [cmpB, lex]
    | cons z c =>
      rw [List.cons_append, List.cons_append, List.cons_prefix_cons, cmpB_cons, cmpB_cons, ih c (fun x hx => hc x (by simp [hx]))]
      by_cases e : y = z
      · simp [e]
      · have e2 : ¬ z = y := fun h => e h.symm
        simp only [if_neg e2, e, false_and, false_iff, not_and]
        intro h1
        have hlt : y < z := by
          by_cases h : y < z
          · exact h
          · simp [h] at h1
        have : ¬ z < y := by omega
        simp [this]
theorem aft_form (b : List Int) : ∀ k, k ≤ b.length → aftFrom b k = [] ∨ ∃ p x n, b.take k = p ++ x :: List.replicate n 255 ∧ aftFrom b k = p ++ [x + 1] := by
  intro k
  induction k with
  | zero => intro _; exact .inl rfl
  | succ k ih =>
    intro hk
    obtain ⟨x, hx⟩ : ∃ x, b[k]? = some x := ⟨_, List.getElem?_eq_getElem (by omega)⟩
    rw [aft_step hx]
    by_cases h : x = 255
    · subst h
      rw [if_pos rfl]
      rcases ih (by omega) with h | ⟨p, y, n, h1, h2⟩
      · exact .inl h
      · exact .inr ⟨p, y, n + 1, by rw [List.take_add_one, hx, h1, List.replicate_succ']; simp, h2⟩
    · rw [if_neg h]
      exact .inr ⟨b.take k, x, 0, by rw [List.take_add_one, hx]; rfl, rfl⟩
/-- What begins with the bytes stands from them on and before what is behind them. -/
theorem begins_iff {b c : List Int} (hc : isB c) (h : afterB b ≠ []) : b <+: c ↔ (cmpB b c ≤ 0 ∧ cmpB c (afterB b) < 0) := by
  rcases aft_form b b.length (Nat.le_refl _) with h1 | ⟨p, x, n, h1, h2⟩
  · exact absurd h1 h
  · rw [List.take_length] at h1
    have h3 : afterB b = p ++ [x + 1] := h2
    rw [h3, h1]
    exact pre_after x n p c hc
theorem take_zero {b c : List Int} : cmpB (c.take b.length) b = 0 ↔ b <+: c := by
  rw [List.prefix_iff_eq_take]
  exact ⟨fun h => (cmpB_zero h).symm, fun h => by rw [← h]; exact cmpB_self b⟩
theorem only_below {w a b : World} {g : Nat} (h : Below w.heap.size w a) (ho : Only [g] a b) (hg : w.heap.size ≤ g) : Below w.heap.size w b :=
  ⟨ho.os.trans h.os, ho.tape.trans h.tape, ho.output.trans h.output, Nat.le_trans h.size ho.size, fun k hk => (ho.block k (Nat.lt_of_lt_of_le hk h.size) (by simp; omega)).trans (h.block k hk)⟩

set_option maxHeartbeats 8000000 in
theorem kafter_law (la : Option Addr) (ca : Nat) (b : List Int) (lc : Option Addr) (cc : Nat) (c : List Int) (w : World) (ha : InB w la b) (hc : InB w lc c) (hb : isB b) (hcb : isB c) (h0 : la = none → ca = 0 ∧ b = []) (nb : b.length ≤ ca ∧ ca ≤ 140737488351232) (nc : c.length ≤ cc ∧ cc ≤ 140737488351232) (hT : Tabs w) :
    Calls Tryd.prog 10 #[.slice la b.length ca, .slice lc c.length cc] w fun e w' => e = .returned (.bool true) ∧ Below w.heap.size w w' := by
  have HA := Lib.hid (And.intro ha (And.intro hc (And.intro hb (And.intro h0 hT))))
  have HM := Lib.hid (begins_iff (b := b) hcb)
  clear ha hc hb hcb h0 hT
  go_enter Tryd.func10, Tryd.ntmps10
  go_wp2_with fail
  refine (awake03_any _ HA.out.2.2.2.2).mono ?_
  rintro e w1 ⟨rfl, b1⟩
  have z1 := b1.size
  have B1 := Lib.hid b1
  clear b1
  go_wp2_with fail
  refine (blent_any la ca b w1 (HA.out.1.then_ B1.out) HA.out.2.2.2.1 (by omega)).mono ?_
  rintro e w2 ⟨rfl, o2, b2⟩
  have z2 := (o2.block _ rfl).2
  have B2 := Lib.hid (below_then B1.out b2)
  have O2 := Lib.hid o2
  clear b2 o2 B1
  go_wp2_with fail
  refine (after_any (some ⟨w1.heap.size, 0, none⟩) (b.length + 2) b w2 O2.out.inB.prefix_ HA.out.2.2.1 (by omega) (by omega)).mono ?_
  rintro e w3 ⟨va, rfl, oa, b3⟩
  have B3 := Lib.hid (below_then B2.out b3)
  have O3 := Lib.hid (O2.out.then_ b3)
  have A3 := Lib.hid oa
  clear b3 oa B2 O2
  go_wp2_with fail
  refine (bkept_any w1.heap.size w1.heap.size la ca b w3 O3.out (HA.out.1.then_ B3.out) (by omega)).mono ?_
  rintro e w4 ⟨rfl, g4⟩
  have B4 := Lib.hid (only_below B3.out g4 z1)
  have A4 := Lib.hid (A3.out.only g4 (by intro b hb; simp at hb; omega))
  clear g4 O3 A3 B3
  go_wp2_with fail
  refine (refAfter_any la ca b w4 (HA.out.1.then_ B4.out) HA.out.2.2.1 (by omega) (by omega)).mono ?_
  rintro e w5 ⟨vr, rfl, or_, b5⟩
  have B5 := Lib.hid (below_then B4.out b5)
  obtain ⟨aa, ac, rfl, ia, -, na, -⟩ := (A4.out.then_ b5).shape
  obtain ⟨ra, rc, rfl, ir, -, nr, -⟩ := or_.shape
  have hna : (afterB b).length ≤ 9223372036854775807 := by have := (A4.out.shape); obtain ⟨x, y, -, -, -, h1, h2⟩ := this; unfold maxLen at h2; omega
  have I5 := Lib.hid ia
  have R5 := Lib.hid ir
  clear b5 or_ A4 B4 ia ir
  go_wp2_with fail
  refine (bsame_any aa ra ac rc (afterB b).length (afterB b).length (afterB b) (afterB b) w5 rfl rfl I5.out R5.out hna).mono ?_
  rintro e w6 ⟨rfl, b6⟩
  simp only [decide_true]
  have B6 := Lib.hid (below_then B5.out b6)
  have I6 := Lib.hid (I5.out.then_ b6)
  clear b6 B5 I5 R5
  by_cases hz : (afterB b).length = 0
  · go_wp2_with fail
    go_ret
    exact ⟨rfl, B6.out⟩
  · replace HM := Lib.hid (HM.out (by intro h; rw [h] at hz; exact hz rfl))
    by_cases hn : b.length ≤ c.length
    · have hmin : min (b.length : Int) (c.length : Int) = b.length := by omega
      have hT := Lib.hid ((take_zero (b := b) (c := c)).trans HM.out)
      have hlt : (c.take b.length).length = b.length := by simp; omega
      go_wp2_with fail
      have K7 := bcompare_any lc la cc ca (c.take b.length) b w6 ((HA.out.2.1.then_ B6.out).take _) (HA.out.1.then_ B6.out) (by omega) (by omega)
      rw [hlt] at K7
      generalize hzz : cmpB (c.take b.length) b = z at K7 hT
      clear hzz
      refine K7.mono ?_
      rintro e w7 ⟨rfl, b7⟩
      have HQ := Lib.hid (below_then B6.out b7)
      have IQ := Lib.hid (I6.out.then_ b7)
      clear b7 K7 B6 I6 HM
      go_wp2_with fail
      refine (bcompare_any la lc ca cc b c _ (HA.out.1.then_ HQ.out) (HA.out.2.1.then_ HQ.out) (by omega) (by omega)).mono ?_
      rintro e w8 ⟨rfl, b8⟩
      have H8 := Lib.hid (below_then HQ.out b8)
      have I8 := Lib.hid (IQ.out.then_ b8)
      clear b8 HQ IQ
      go_wp2_with fail
      refine (bcompare_any lc aa cc ac c (afterB b) _ (HA.out.2.1.then_ H8.out) I8.out (by omega) hna).mono ?_
      rintro e w9 ⟨rfl, b9⟩
      have H9 := Lib.hid (below_then H8.out b9)
      clear b9 H8 I8
      generalize cmpB b c = f at *
      generalize cmpB c (afterB b) = t at *
      by_cases hf : f ≤ 0
      · by_cases ht : t < 0
        · have hg := hT.out.2 ⟨hf, ht⟩
          go_wp2_with fail
          go_ret
          exact ⟨ret_bool (by first | (simp; done) | (rw [Bool.eq_iff_iff]; simp <;> omega)), H9.out⟩
        · have hg : ¬ z = 0 := fun h => ht (hT.out.1 h).2
          go_wp2_with fail
          go_ret
          exact ⟨ret_bool (by have h1 : (z == 0) = false := (by simp; exact hg); have h2 : decide (t < 0) = false := decide_eq_false (by omega); rw [h1, h2]; rfl), H9.out⟩
      · have hg : ¬ z = 0 := fun h => hf (hT.out.1 h).1
        go_wp2_with fail
        go_ret
        exact ⟨ret_bool (by first | (simp; done) | (rw [Bool.eq_iff_iff]; simp <;> omega)), H9.out⟩
    · have hp : ¬ b <+: c := fun h => hn h.length_le
      have HQ := B6
      have IQ := I6
      clear B6 I6
      go_wp2_with fail
      refine (bcompare_any la lc ca cc b c _ (HA.out.1.then_ HQ.out) (HA.out.2.1.then_ HQ.out) (by omega) (by omega)).mono ?_
      rintro e w8 ⟨rfl, b8⟩
      have H8 := Lib.hid (below_then HQ.out b8)
      have I8 := Lib.hid (IQ.out.then_ b8)
      clear b8 HQ IQ
      go_wp2_with fail
      refine (bcompare_any lc aa cc ac c (afterB b) _ (HA.out.2.1.then_ H8.out) I8.out (by omega) hna).mono ?_
      rintro e w9 ⟨rfl, b9⟩
      have H9 := Lib.hid (below_then H8.out b9)
      clear b9 H8 I8
      generalize cmpB b c = f at *
      generalize cmpB c (afterB b) = t at *
      by_cases hf : f ≤ 0
      · by_cases ht : t < 0
        · exact absurd (HM.out.2 ⟨hf, ht⟩) hp
        · go_wp2_with fail
          go_ret
          exact ⟨ret_bool (by first | (simp; done) | (rw [Bool.eq_iff_iff]; simp <;> omega)), H9.out⟩
      · go_wp2_with fail
        go_ret
        exact ⟨ret_bool (by first | (simp; done) | (rw [Bool.eq_iff_iff]; simp <;> omega)), H9.out⟩
end Go.Proofs.YtdlgngnibbaamaaDoor
