/- A disk holds no more than one row for each of its sectors: the bound on what lies there made small again. No statement is proved here. -/
import Derived.Test.YtonjapphhbhcpaaDoorJ7
import Derived.Maps.Range
namespace Go.Proofs.YtonjapphhbhcpaaDoor
open Go.RowKit
open Go.Maps (Keyed IsMap Tidy)
set_option maxRecDepth 100000

theorem nodup_lt : ∀ (m : Nat) (l : List Nat), l.Nodup → (∀ x ∈ l, x < m) → l.length ≤ m
  | 0, l, _, h => by
    cases l with
    | nil => exact Nat.le_refl _
    | cons x l => exact absurd (h x (List.mem_cons_self ..)) (Nat.not_lt_zero _)
  | m + 1, l, hn, h => by
    by_cases hm : m ∈ l
    · have h1 := nodup_lt m (l.erase m) (hn.erase m) (fun x hx => by
        have h2 := (hn.mem_erase_iff).1 hx
        have h3 := h x h2.2
        have h4 := h2.1
        omega)
      have h2 := List.length_erase_of_mem hm
      omega
    · exact Nat.le_succ_of_le (nodup_lt m l hn (fun x hx => by
        have h3 := h x hx
        have h4 : x ≠ m := fun e => hm (e ▸ hx)
        omega))
theorem int_key {v : Value} {kl : Lit} (h : keyOf Tryd.prog 3 v = some kl) : ∃ a : Int, kl = .int .i64 a := by
  cases v <;> simp [keyOf, Tryd.underlying3, mapKey] at h
  obtain ⟨_, rfl⟩ := h
  exact ⟨_, rfl⟩
theorem owns_tight {w : World} {b n m : Nat} {D : DataW Unit} (h : w.ownsMap Tryd.prog 3 RowR b n D) (hk : ∀ k : Int, Maps.has D (.int .i64 k) = true → 0 ≤ k ∧ k < m) : w.ownsMap Tryd.prog 3 RowR b m D := by
  obtain ⟨es, clock, hb, F, hn, hD⟩ := h
  refine ⟨es, clock, hb, F, ?_, hD⟩
  have hkeys := Maps.fit_keys F
  have hap := Maps.fit_apart keyK F
  have hlen : (es.toList.map (WideElems.rg Tryd.prog 3 RowR)).length = es.size := by simp
  generalize hL : es.toList.map (WideElems.rg Tryd.prog 3 RowR) = L at *
  have hform : ∀ p ∈ L, ∃ a : Int, p.1 = .int .i64 a ∧ 0 ≤ a ∧ a < m := fun p hp => by
    obtain ⟨v, hv⟩ := hkeys p hp
    obtain ⟨a, ha⟩ := int_key hv
    refine ⟨a, ha, hk a ?_⟩
    rw [hD, Maps.has_eq, List.any_eq_true]
    exact ⟨p, (WideShapes.sorted_perm L).mem_iff.2 hp, by rw [ha]; simp [Lit.sameKey]⟩
  let num : Lit × DataW Unit → Nat := fun p => match p.1 with | .int _ a => a.toNat | _ => 0
  have hnum : ∀ p ∈ L, ∃ a : Int, p.1 = .int .i64 a ∧ num p = a.toNat ∧ 0 ≤ a ∧ a < m := fun p hp => by
    obtain ⟨a, ha, h0, h1⟩ := hform p hp
    exact ⟨a, ha, by show (match p.1 with | .int _ a => a.toNat | _ => 0) = _; rw [ha], h0, h1⟩
  have hnd : (L.map num).Nodup := by
    rw [List.Nodup, List.pairwise_map]
    refine hap.imp_of_mem fun {p q} hp hq hne e => hne ?_
    obtain ⟨a, ha, ea, h0, h1⟩ := hnum p hp
    obtain ⟨c, hc, ec, h2, h3⟩ := hnum q hq
    rw [ea, ec] at e
    rw [ha, hc]
    congr 1
    omega
  have hle := nodup_lt m (L.map num) hnd (fun x hx => by
    obtain ⟨p, hp, rfl⟩ := List.mem_map.1 hx
    obtain ⟨a, ha, ea, h0, h1⟩ := hnum p hp
    rw [ea]
    omega)
  rw [List.length_map, hlen] at hle
  exact hle
/-- A disk of package block, however much was done to it. -/
theorem BoxAt.tight {w : World} {B : Base} {g N M : Nat} {d : Dk} (h : BoxAt w B g d N) (hM : d.wait.length ≤ M) : BoxAt w B g d (d.many + M) := by
  obtain ⟨hok, s, h⟩ := h
  have keyS : ∀ k : Int, Maps.has s.DS (.int .i64 k) = true → 0 ≤ k ∧ k < d.many := fun k hk => by
    have h0 := h.isS.keys k hk
    refine ⟨h0, ?_⟩
    cases e : d.safe k.toNat with
    | none =>
      have := h.isS.none_ k.toNat e
      rw [Int.toNat_of_nonneg h0, hk] at this
      cases this
    | some r =>
      have := (hok.rowS k.toNat r e).2
      omega
  have keyN : ∀ k : Int, Maps.has s.DN (.int .i64 k) = true → 0 ≤ k ∧ k < d.many := fun k hk => by
    have h0 := h.isN.keys k hk
    refine ⟨h0, ?_⟩
    cases e : d.now k.toNat with
    | none =>
      have := h.isN.none_ k.toNat e
      rw [Int.toNat_of_nonneg h0, hk] at this
      cases this
    | some r =>
      rw [hok.now] at e
      have := (over_rows (n := d.many) (fun k r h => hok.rowS k r h) (fun p hp => hok.rowW p hp) k.toNat r e).2
      omega
  exact ⟨hok, { s with nS := d.many, nN := d.many }, { h with mapS := owns_tight h.mapS keyS, mapN := owns_tight h.mapN keyN, numS := by show d.many + d.wait.length ≤ d.many + M; omega, numN := Nat.le_add_right _ _ }⟩
theorem over_key : ∀ (l : List (Nat × List Int)) (f : Secs) (k : Nat), k ∈ l.map (·.1) → ∃ r, over f l k = some r
  | [], f, k, h => by cases h
  | p :: l, f, k, h => by
    obtain ⟨i, r⟩ := p
    rw [over_cons]
    by_cases hk : k ∈ l.map (·.1)
    · exact over_key l _ k hk
    · rw [List.map_cons, List.mem_cons] at h
      have e : k = i := by
        rcases h with h | h
        · exact h
        · exact absurd h hk
      subst e
      have : ∀ (l : List (Nat × List Int)) (f : Secs), k ∉ l.map (·.1) → over f l k = f k := fun l => by
        induction l with
        | nil => intro f _; rfl
        | cons q l ih =>
          intro f hq
          obtain ⟨j, u⟩ := q
          rw [List.map_cons, List.mem_cons, not_or] at hq
          rw [over_cons, ih _ hq.2, upd_other _ _ hq.1]
      exact ⟨r, by rw [this l _ hk, upd_same]⟩
/-- The document's own disk likewise. -/
theorem RefAt.tight {w : World} {B g N M : Nat} {d : Dk} (h : RefAt w B g d N) (hM : d.wait.length ≤ M) : RefAt w B g d (d.many + M) := by
  obtain ⟨hok, s, h⟩ := h
  have hle := nodup_lt d.many (s.ls.map (·.1)) h.keys (fun k hk => by
    obtain ⟨r, e⟩ := over_key s.ls noSecs k hk
    rw [← h.isS] at e
    exact (hok.rowS k r e).2)
  rw [List.length_map] at hle
  exact ⟨hok, s, { h with num := by omega }⟩
end Go.Proofs.YtonjapphhbhcpaaDoor
