/- Words joined, texts joined; rows of words appended. No statement is proved here. -/
import Derived.Test.YtgcbcmhdlgklgaaWRow
namespace Go.Proofs.Ytgcbcmhdlgklgaa
open Go.RowKit Go.Lib
set_option maxRecDepth 100000

theorem joinW_snoc : ∀ (ws : List (List Int)) (w : List Int), ws ≠ [] → joinW (ws ++ [w]) = joinW ws ++ 32 :: w
  | [], _, h => absurd rfl h
  | [a], w, _ => rfl
  | a :: b :: r, w, _ => by
    have ih := joinW_snoc (b :: r) w (by simp)
    rw [List.cons_append, List.cons_append, joinW, joinW]
    rw [List.cons_append] at ih
    rw [ih]
    simp
theorem strOf_append (a b : List Int) : strOfNums (a ++ b) = strOfNums a ++ strOfNums b := by
  apply ByteArray.ext
  simp [strOfNums]
theorem bsI_append (s t : ByteArray) : bsI (s ++ t) = bsI s ++ bsI t := by simp [bsI]
theorem strOf_size (l : List Int) : (strOfNums l).size = l.length := by simp [strOfNums, ByteArray.size]
theorem word_isB {w : List Int} (h : isWord w) : isB w := by
  obtain ⟨-, rs, -, rfl⟩ := h
  intro x hx
  obtain ⟨r, -, hr⟩ := List.mem_flatMap.1 hx
  have := encodeRuneZ_byte r x hr
  omega
theorem joinW_isB : ∀ (ws : List (List Int)), (∀ w ∈ ws, isWord w) → isB (joinW ws)
  | [], _ => isB.nil
  | [w], h => word_isB (h w (by simp))
  | w :: v :: r, h => by
    rw [joinW]
    exact (word_isB (h w (by simp))).append (isB.cons (by omega) (joinW_isB (v :: r) fun x hx => h x (by simp [hx])))
theorem joinW_len : ∀ (ws : List (List Int)), (∀ w ∈ ws, isWord w) → (joinW ws).length ≤ 41 * ws.length
  | [], _ => by simp [joinW]
  | [w], h => by have := (h w (by simp)).1; simp [joinW]; omega
  | w :: v :: r, h => by
    have ih := joinW_len (v :: r) fun x hx => h x (by simp [hx])
    have := (h w (by simp)).1
    rw [joinW]
    simp at ih ⊢
    omega
theorem splitL_are {l : List Int} : ∀ w ∈ splitL l, isWord w := fun w hw => wordsL_are l w (List.mem_of_mem_take hw)
/-- Split again, the words are the same. -/
theorem split_again (l : List Int) : splitL (joinW (splitL l)) = splitL l := by
  show (wordsL (joinW (splitL l))).take 200 = splitL l
  rw [wordsL_join (splitL l) splitL_are, List.take_of_length_le (splitL_len l)]
/-- Of two texts with a blank between. -/
theorem split_both (a b : List Int) (h1 : (splitL a).length < 200) (h2 : (splitL b).length < 200) (h3 : (splitL a).length + (splitL b).length ≤ 200) : splitL (a ++ 32 :: b) = splitL a ++ splitL b := by
  have e : ∀ l : List Int, (splitL l).length < 200 → wordsL l = splitL l := fun l h => by
    unfold splitL at h ⊢
    rw [List.length_take] at h
    rw [List.take_of_length_le (by omega)]
  show (wordsL (a ++ 32 :: b)).take 200 = splitL a ++ splitL b
  rw [wordsL_sep, e a h1, e b h2, List.take_of_length_le (by rw [List.length_append]; omega)]
/-- Rows of words appended. -/
theorem run_apSR (w : World) (ty : TypeId) (B : Nat) (v : Value) (l : List (List Int)) (hown : OwnS w B v l) (b : Option Addr) (n c : Nat) (bs : List (List Int)) (hn : bs.length = n) (hb : InW w b bs) (h0 : b = none → c = 0 ∧ bs = []) (hl : l.length + n ≤ 1000000000000) (hB : B ≤ w.heap.size) :
    ∃ v' w', (Builtin.append_ #[23, 23] ty #[v, .slice b n c]).run Try.prog w = .ok v' w' ∧ OwnS w' B v' (l ++ bs) ∧ w.grownBy w' v.ownBlock := by
  obtain ⟨i0, hi0, hz0, hz1, hz2⟩ := info_parts info_str
  cases b with
  | none =>
    obtain ⟨rfl, rfl⟩ := h0 rfl
    subst hn
    exact ⟨v, w, run_append_owned_none (P := Try.prog) (w := w) B 23 ty 9 i0 1 Try.underlying23 hi0 v l.length (stV l) hown, by simpa using hown, World.grownBy.refl _ _⟩
  | some ad =>
    obtain ⟨v', w', hr, h1, h2, -, -⟩ := run_append_own_at (P := Try.prog) w B 23 ty 9 i0 _ 1 16 Try.underlying23 hi0 hz0 hz1 hz2 rfl (by decide) v l.length (stV l) hown ad n c (stV bs) (by rw [stV_len]; omega) (fun j u hj => by
        rw [stV, List.getElem?_map, Option.map_eq_some_iff] at hj
        obtain ⟨y, hy, rfl⟩ := hj
        obtain ⟨bb, oo, e, hc⟩ := hb j y hy
        injection e with e
        subst e
        rw [show (⟨bb, oo, none⟩ : Addr).add j = ⟨bb, oo + j, none⟩ by unfold Addr.add; split <;> simp_all]
        exact hc) (fun u hu => by obtain ⟨y, -, rfl⟩ := List.mem_map.1 hu; rfl) (by unfold maxLen; omega) (by omega) hB
    refine ⟨v', w', hr, ?_, h2⟩
    unfold OwnS
    rw [List.length_append, stV_append, hn]
    exact h1
theorem wpList_apSR {ops : Array Oper} {rest : List Oper} {o : Oper} {a : Act} {w : World} {Q : Exit → Act → World → Prop} (hgd : o.guard = none) (s x : Operand)
    (ho : o.op = .call { callee := .builtin .append, args := #[s, x], argTypes := #[23, 23] }) (B : Nat) (v : Value) (l : List (List Int)) (hs : a.eval s = v) (hown : OwnS w B v l)
    (b : Option Addr) (n c : Nat) (bs : List (List Int)) (hx : a.eval x = .slice b n c) (hn : bs.length = n) (hb : InW w b bs) (h0 : b = none → c = 0 ∧ bs = []) (hl : l.length + n ≤ 1000000000000) (hB : B ≤ w.heap.size)
    (h : ∀ v' w', OwnS w' B v' (l ++ bs) → w.grownBy w' v.ownBlock → wpList Try.prog ops Q rest (a.put o.dst v') w') : wpList Try.prog ops Q (o :: rest) a w := by
  obtain ⟨v', w', hr, h1, h2⟩ := run_apSR w o.type B v l hown b n c bs hn hb h0 hl hB
  refine wpList_plain hgd fun K hK => ?_
  unfold Oper.wp execOp
  simp only [ho, resolve, invoke, builtin, Sem.run_bind, Sem.run_pure, Result.andThen_ok, List.map_toArray, List.map_cons, List.map_nil, hs, hx, hr]
  exact hK _ _ (h v' w' h1 h2)
end Go.Proofs.Ytgcbcmhdlgklgaa
