/- A map that counts words: no program here. No statement is proved here. -/
import Derived.Test.YtgcbcmhdlgklgaaWTTo
import Derived.Maps.OwnSet
import Derived.Maps.Views
import Derived.Sort.KeysCollected
namespace Go.Proofs.Ytgcbcmhdlgklgaa
open Go.RowKit Go.Lib Go.ChangeMaps Go.MapKept Go.WideShapes
open Go.Maps (Keyed IsMap Tidy)
set_option maxRecDepth 100000

def numsI (b : List UInt8) : List Int := b.map fun x => (x.toNat : Int)
def litOf (x : List Int) : Lit := .string (strOfNums x).data.toList
theorem numsI_str (x : List Int) (h : isB x) : numsI (strOfNums x).data.toList = x := bsI_str h
theorem numsI_isB (b : List UInt8) : isB (numsI b) := isB_bsI ⟨b.toArray⟩
theorem str_numsI (b : List UInt8) : (strOfNums (numsI b)).data.toList = b := by
  rw [strOfNums_data, numsI, List.map_map]
  have e : ((fun n : Int => UInt8.ofNat n.toNat) ∘ fun b : UInt8 => (b.toNat : Int)) = id := funext fun b => by simp
  rw [e, List.map_id]
theorem numsI_inj {a b : List UInt8} (h : numsI a = numsI b) : a = b := by rw [← str_numsI a, ← str_numsI b, h]
/-- A map that holds the counts of some words. -/
structure MapOf (D : DataW Unit) (l : List (List Int)) : Prop where
  tidy : Tidy D
  at_ : ∀ b, D.atKey (.string b) (.lit (.int .i64 0)) = .lit (.int .i64 (l.count (numsI b) : Nat))
  has : ∀ b, Maps.has D (.string b) = decide (numsI b ∈ l)
theorem MapOf.start : MapOf (.map []) [] := ⟨Maps.tidy_empty, fun b => rfl, fun b => by simp [Maps.has]⟩
theorem MapOf.put {D : DataW Unit} {l : List (List Int)} (h : MapOf D l) {x : List Int} (hx : isB x) : MapOf (D.put (litOf x) (.lit (.int .i64 ((l.count x : Nat) + 1)))) (l ++ [x]) := by
  have hm : ∀ b, Lit.string b = litOf x → numsI b = x := fun b e => by
    injection e with e
    rw [e, numsI_str x hx]
  have hn : ∀ b, Lit.string b ≠ litOf x → numsI b ≠ x := fun b e h => e (by rw [← h]; unfold litOf; rw [str_numsI])
  refine ⟨h.tidy.put (show WideAt.IsKeyLit (litOf x) from trivial) _, fun b => ?_, fun b => ?_⟩
  · rw [List.count_append, List.count_singleton]
    by_cases e : Lit.string b = litOf x
    · rw [e, Maps.atKey_put_same h.tidy.isMap (show WideAt.IsKeyLit (litOf x) from trivial), hm b e]
      simp
    · have e2 : ¬ x = numsI b := fun h => hn b e h.symm
      rw [Maps.atKey_put_other e, h.at_]
      simp [e2]
  · by_cases e : Lit.string b = litOf x
    · rw [e, Maps.has_put_same h.tidy.isMap (show WideAt.IsKeyLit (litOf x) from trivial), hm b e]
      simp
    · have := hn b e
      rw [Maps.has_put_other e, h.has]
      simp [this]
/-- The keys of such a map. -/
theorem MapOf.keys {D : DataW Unit} {l : List (List Int)} (h : MapOf D l) (hs : ∀ es, D = .map es → ∀ p ∈ es, ∃ x, p.1 = .string x) : (strKeys D).Nodup ∧ (∀ b, b ∈ strKeys D ↔ numsI b ∈ l) ∧ Maps.size D = (strKeys D).length := by
  obtain ⟨es, rfl, hp⟩ := h.tidy
  have hk := hs es rfl
  refine ⟨?_, fun b => ?_, by simp [Maps.size, strKeys]⟩
  · refine List.pairwise_map.2 (hp.imp_of_mem fun {p q} hp' hq' hne e => hne ?_)
    obtain ⟨a, ha⟩ := hk p hp'
    obtain ⟨b, hb⟩ := hk q hq'
    rw [ha, hb] at e ⊢
    exact congrArg _ e
  · have h2 := h.has b
    have e : Maps.has (.map es) (.string b) = true ↔ b ∈ strKeys (.map es) := by
      rw [Maps.has_eq, List.any_eq_true]
      show _ ↔ b ∈ es.map fun p => strOf p.1
      rw [List.mem_map]
      constructor
      · rintro ⟨p, hp', hs'⟩
        obtain ⟨a, ha⟩ := hk p hp'
        rw [ha] at hs'
        exact ⟨p, hp', by rw [ha]; simpa [Lit.sameKey, strOf] using hs'⟩
      · rintro ⟨p, hp', rfl⟩
        obtain ⟨a, ha⟩ := hk p hp'
        exact ⟨p, hp', by rw [ha]; simp [Lit.sameKey, strOf]⟩
    rw [← e, h2, decide_eq_true_iff]
/-- What is counted in a map and in a row is as much. -/
theorem MapOf.size {D : DataW Unit} {l : List (List Int)} (h : MapOf D l) (hs : ∀ es, D = .map es → ∀ p ∈ es, ∃ x, p.1 = .string x) {L : List Tm} (k : Counted l L) (hl : ∀ y ∈ l, isB y) : Maps.size D = L.length := by
  obtain ⟨h1, h2, h3⟩ := h.keys hs
  have n1 : ((strKeys D).map numsI).Nodup := List.pairwise_map.2 (h1.imp fun hne e => hne (numsI_inj e))
  have n2 : (keysT L).Nodup := List.pairwise_map.2 (k.sorted.imp fun {p q} hlt e => by rw [e, ltW_irrefl] at hlt; cases hlt)
  have hp : ((strKeys D).map numsI).Perm (keysT L) := (List.perm_ext_iff_of_nodup n1 n2).2 fun y => by
    rw [k.keys, List.mem_map]
    constructor
    · rintro ⟨b, hb, rfl⟩
      exact (h2 b).1 hb
    · intro hy
      refine ⟨(strOfNums y).data.toList, ?_, numsI_str y (hl y hy)⟩
      rw [h2, numsI_str y (hl y hy)]
      exact hy
  have := hp.length_eq
  rw [List.length_map] at this
  rw [h3, this, keysT, List.length_map]
/-- The counts in the order of the words. -/
def termsOf (l : List (List Int)) (ss : List (List UInt8)) : List Tm := ss.map fun b => (numsI b, l.count (numsI b))
theorem MapOf.terms {D : DataW Unit} {l : List (List Int)} (h : MapOf D l) (hs : ∀ es, D = .map es → ∀ p ∈ es, ∃ x, p.1 = .string x) {L : List Tm} (k : Counted l L) (hl : ∀ y ∈ l, isB y) {ss : List (List UInt8)} (hp : ss.Perm (strKeys D)) : termsOf l (ss.mergeSort Go.leB) = L := by
  obtain ⟨h1, h2, h3⟩ := h.keys hs
  have hq : (ss.mergeSort Go.leB).Perm (strKeys D) := (List.mergeSort_perm ss Go.leB).trans hp
  have hnd : (ss.mergeSort Go.leB).Nodup := hq.nodup_iff.2 h1
  have hle : (ss.mergeSort Go.leB).Pairwise fun a b => Go.leB a b = true := List.pairwise_mergeSort (fun a b c h1 h2 => by simp only [Go.leB, decide_eq_true_eq] at *; exact List.le_trans h1 h2) (fun a b => by simp only [Go.leB, Bool.or_eq_true, decide_eq_true_eq]; exact List.le_total a b) ss
  refine Counted.one (l := l) (m := l) ⟨?_, fun y => ?_, fun p hp' => ?_, ?_⟩ k (fun _ => rfl)
  · refine List.pairwise_map.2 ((hle.and hnd).imp fun {a b} hab => ?_)
    rw [ltW_iff, toList_data, toList_data]
    show (strOfNums (numsI a)).data.toList < (strOfNums (numsI b)).data.toList
    rw [str_numsI, str_numsI]
    rcases List.le_iff_lt_or_eq.1 (of_decide_eq_true hab.1) with h | h
    · exact h
    · exact absurd h hab.2
  · unfold keysT termsOf
    rw [List.map_map, List.mem_map]
    constructor
    · rintro ⟨b, hb, rfl⟩
      exact (h2 b).1 (hq.mem_iff.1 hb)
    · intro hy
      refine ⟨(strOfNums y).data.toList, hq.mem_iff.2 ((h2 _).2 ?_), numsI_str y (hl y hy)⟩
      rw [numsI_str y (hl y hy)]
      exact hy
  · obtain ⟨b, -, rfl⟩ := List.mem_map.1 hp'
    rfl
  · unfold termsOf
    rw [List.length_map, hq.length_eq, ← h3, h.size hs k hl]
    exact k.few
end Go.Proofs.Ytgcbcmhdlgklgaa
