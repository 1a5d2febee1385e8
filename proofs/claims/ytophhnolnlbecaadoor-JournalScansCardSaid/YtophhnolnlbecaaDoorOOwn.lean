/- Appends to rows of bytes that need not begin where their block does. No statement is proved here. -/
import Derived.Test.YtophhnolnlbecaaDoorQ23
namespace Go.Proofs.YtophhnolnlbecaaDoor
open Go.RowKit
set_option maxRecDepth 100000

theorem run_append_off (w : World) (ty : TypeId) (g o sLen sCap : Nat) (cur : Array Value) (hg : w.heap[g]? = some (.cells cur 5 (0, 0))) (ad : Addr) (m c : Nat) (news : List Int) (hn : news.length = m) (hnews : ∀ j u, (btV news)[j]? = some u → w.cell? (ad.add j) = some u) (hroom : sLen + m ≤ sCap) (hfit : o + sLen + m ≤ cur.size) :
    (Builtin.append_ #[22, 22] ty #[.slice (some ⟨g, o, none⟩) sLen sCap, .slice (some ad) m c]).run Tryd.prog w = .ok (.slice (some ⟨g, o, none⟩) (sLen + m) sCap) (w.setRow g (cur.toList.take (o + sLen) ++ btV news ++ cur.toList.drop (o + sLen + (btV news).length)).toArray) := by
  obtain ⟨i0, hi0, hz0, hz1, hz2⟩ := info_parts info_byte
  have hf := run_firstCells_some (P := Tryd.prog) w i0.size m ad m c (btV news) (by rw [btV_len, hz1]; omega) hnews
  have hst := run_storeCells_at Tryd.prog g (o + sLen) 5 (btV news) 0 cur w hg (by rw [btV_len]; omega) (btV_one news)
  simp only [Nat.add_zero] at hst
  rw [hz1] at hf
  have hund := run_underlying Tryd.underlying22
  simp [Builtin.append_, hund, sizeOf, typeInfo, hi0, Builtin.lenOf, hroom, hf, Addr.add_lit, hst, hz1]
theorem btV_app (a b : List Int) : btV (a ++ b) = btV a ++ btV b := by simp [btV]
/-- An append keeps what was there: it lies where it lay, or nothing old has changed. -/
theorem run_apKO (w : World) (ty : TypeId) (B : Nat) (v : Value) (l : List Int) (hown : OwnO w B v l) (ad : Addr) (n c : Nat) (bs : List Int) (hn : bs.length = n) (hn0 : 0 < n) (hg : ∀ j u, (btV bs)[j]? = some u → w.cell? (ad.add j) = some u) (hl : l.length + n ≤ 140737488355328) (hB : B ≤ w.heap.size) :
    ∃ v' w', (Builtin.append_ #[22, 22] ty #[v, .slice (some ad) n c]).run Tryd.prog w = .ok v' w' ∧ OwnO w' B v' (l ++ bs) ∧ w.grownBy w' v.ownBlock ∧
      ((∃ a m k m' k', v = .slice (some a) m k ∧ v' = .slice (some a) m' k') ∨ (Below w.heap.size w w' ∧ ∃ g, v'.ownBlock = some g ∧ w.heap.size ≤ g)) := by
  rcases hown with hown | ⟨g, o, cap, cur, rfl, hBg, hgc, hsz, hle, hcm, htk⟩
  · obtain ⟨v', w', hr, G, K⟩ := run_apK w ty B v l hown ad n c bs hn hn0 hg hl hB
    refine ⟨v', w', hr, G.own.o, G.grow, ?_⟩
    rcases K with ⟨g, k1, k2⟩ | K
    · left
      obtain ⟨a1, c1, e1, -⟩ := hown.shape
      obtain ⟨a2, c2, e2, -⟩ := G.own.shape
      have h1 := hown
      have h2 := G.own
      rw [e1] at h1 k2
      rw [e2] at h2 k1
      have q1 : a1 = some ⟨g, 0, none⟩ := by
        rcases h1.addr.2 with e | ⟨g0, e⟩
        · subst e; simp [Value.ownBlock] at k2
        · subst e; simp [Value.ownBlock] at k2; rw [k2]
      have q2 : a2 = some ⟨g, 0, none⟩ := by
        rcases h2.addr.2 with e | ⟨g0, e⟩
        · subst e; simp [Value.ownBlock] at k1
        · subst e; simp [Value.ownBlock] at k1; rw [k1]
      exact ⟨_, _, _, _, _, by rw [e1, q1], by rw [e2, q2]⟩
    · exact .inr K
  · by_cases hroom : l.length + n ≤ cap
    · have hr := run_append_off w ty g o l.length cap cur hgc ad n c bs hn hg hroom (by omega)
      refine ⟨_, _, hr, .inr ⟨g, o, cap, _, by rw [List.length_append, hn], hBg, setRow_heap w g cur _ 5 _ hgc, ?_, by rw [List.length_append, hn]; exact hroom, hcm, ?_⟩, ⟨rfl, rfl, rfl, by simp, fun k _ hk => setRow_other w g k _ (fun e => hk (by simp [Value.ownBlock, e]))⟩, .inl ⟨_, _, _, _, _, rfl, rfl⟩⟩
      · simp only [List.size_toArray, List.length_append, List.length_take, List.length_drop, Array.length_toList, btV_len]
        omega
      · have hcl : cur.toList.length = cur.size := Array.length_toList
        have h1 : cur.toList.take (o + l.length) = cur.toList.take o ++ btV l := by
          rw [← htk, List.take_add]
        rw [List.toList_toArray, h1, List.append_assoc, List.append_assoc, List.drop_append, List.length_take, hcl, Nat.min_eq_left (by omega), Nat.sub_self, List.drop_zero, List.drop_eq_nil_of_le (by rw [List.length_take]; omega), List.nil_append, ← List.append_assoc, ← btV_app]
        exact List.take_left' (btV_len _)
    · obtain ⟨i0, hi0, hz0, hz1, hz2⟩ := info_parts info_byte
      have holds : ∀ j u, (btV l)[j]? = some u → w.cell? ((⟨g, o, none⟩ : Addr).add j) = some u := fun j u hj => by
        rw [Addr.add_lit]
        have hx : ∃ x, l[j]? = some x ∧ u = .int .u8 x := by
          simp [btV] at hj
          obtain ⟨x, h1, h2⟩ := hj
          exact ⟨x, h1, h2.symm⟩
        obtain ⟨x, hx, rfl⟩ := hx
        exact (off_cell hgc htk hx).1
      have hr := run_append_grow (P := Tryd.prog) (w := w) 22 ty 5 i0 _ Tryd.underlying22 hi0 hz0 ⟨g, o, none⟩ l.length cap (btV l) (by rw [btV_len, hz1]; omega) holds ad n c (btV bs) (by rw [btV_len, hz1]; omega) hg (by omega) (by omega) (by rw [hz2]; exact growslice_fits (by omega) (by omega))
      have hge := grownCap_ge w (l.length + n) cap 5
      have hcm' : grownCap w (l.length + n) cap 5 ≤ maxLen := grownCap_le_maxLen w (l.length + n) cap 5 (by unfold maxLen; omega)
      refine ⟨_, _, hr, .inl ⟨by rw [btV_len, List.length_append, Nat.mul_one], .inr ⟨w.heap.size, _, _, by rw [List.length_append, hn], hB, heap_alloc_new w.drew _, by rw [List.length_append, hn]; exact hge, hcm', ?_, ?_⟩⟩, ⟨rfl, rfl, rfl, by simp, fun k hk _ => Below.heap_alloc w.drew _ k hk⟩, .inr ⟨(Below.refl _ _).drew.alloc (Nat.le_refl _) _, _, rfl, Nat.le_refl _⟩⟩
      · simp only [Array.size_append, List.size_toArray, size_zeroCells, btV_len, Value.cells]
        simp
        omega
      · simp only [Array.toList_append, List.append_assoc]
        rw [Nat.mul_one, ← List.append_assoc, ← btV_app]
        exact List.take_left' (btV_len _)
theorem apLKO {ops : Array Oper} {rest : List Oper} {o : Oper} {a : Act} {w : World} {Q : Exit → Act → World → Prop} (cs : Array Value) (hgd : o.guard = none) (s x : Operand)
    (ho : o.op = .call { callee := .builtin .append, args := #[s, x], argTypes := #[22, 22] }) (B : Nat) (v : Value) (l : List Int) (hs : a.eval s = v) (hown : OwnO w B v l)
    (bs : List Int) (g n c : Nat) (hx : a.eval x = .slice (some ⟨g, 0, none⟩) n c) (hg : g = w.heap.size) (hc : cs = (btV bs).toArray) (hn : bs.length = n) (hn0 : 0 < n) (hl : l.length + n ≤ 140737488355328) (hB : B ≤ w.heap.size)
    (h : ∀ v' w', OwnO w' B v' (l ++ bs) → (w.alloc (.cells cs 5)).grownBy w' v.ownBlock → ((∃ a m k m' k', v = .slice (some a) m k ∧ v' = .slice (some a) m' k') ∨ (Below w.heap.size w w' ∧ ∃ g, v'.ownBlock = some g ∧ w.heap.size ≤ g)) → wpList Tryd.prog ops Q rest (a.put o.dst v') w') : wpList Tryd.prog ops Q (o :: rest) a (w.alloc (.cells cs 5)) := by
  subst hc hg
  obtain ⟨v', w', hr, h1, h2, h3⟩ := run_apKO (w.alloc (.cells (btV bs).toArray 5)) o.type B v l (hown.then_ (below1 w _)) ⟨w.heap.size, 0, none⟩ n c bs hn hn0 (news_at w _ _ _ rfl) hl (Nat.le_trans hB (below1 _ _).size)
  refine wpList_ap hgd s x _ _ ho _ _ v' w' hs hx hr (h v' w' h1 h2 ?_)
  rcases h3 with h3 | ⟨h3, g, h4, h5⟩
  · exact .inl h3
  · exact .inr ⟨below_then (below1 w _) h3, g, h4, Nat.le_trans (below1 w _).size h5⟩
end Go.Proofs.YtophhnolnlbecaaDoor
