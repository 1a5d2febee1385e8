/- Pages taken and given back again, pure. No statement is proved here. -/
import Derived.Test.YteoekfmjlmpmgaaHTwo
namespace Go.Proofs.Yteoekfmjlmpmgaa
/-- Taken from L0, one behind another, and so many of them given back. -/
structure Took (L0 : List Int) (T : List Nat) (r : Nat) (L : List Int) : Prop where
  zero : ∀ t ∈ T, L0[t]? = some 0
  nodup : T.Nodup
  get : ∀ i : Nat, L[i]? = if i ∈ T.drop r then some 1 else L0[i]?
theorem Took.start (L : List Int) : Took L [] 0 L := ⟨fun _ h => (by cases h), List.nodup_nil, fun i => by simp⟩
theorem Took.take {L0 L : List Int} {T : List Nat} {t : Nat} (h : Took L0 T 0 L) (ht : findZ L = some t) : Took L0 (T ++ [t]) 0 (takeL L) := by
  obtain ⟨h1, -⟩ := find_some ht
  have hl := lt_of_get h1
  have hg := h.get t
  rw [List.drop_zero, h1] at hg
  have hnot : t ∉ T := fun hm => by rw [if_pos hm] at hg; cases hg
  rw [if_neg hnot] at hg
  refine ⟨fun x hx => ?_, ?_, fun i => ?_⟩
  · rcases List.mem_append.1 hx with hx | hx
    · exact h.zero x hx
    · rw [List.mem_singleton.1 hx]; exact hg.symm
  · rw [List.nodup_append]
    refine ⟨h.nodup, by simp, fun a ha b hb e => ?_⟩
    rw [List.mem_singleton.1 hb] at e
    exact hnot (e ▸ ha)
  · have hi := h.get i
    rw [List.drop_zero] at hi ⊢
    rw [(take_some ht).2.2, List.getElem?_set]
    by_cases he : t = i
    · subst he; simp [hl]
    · rw [if_neg he, hi]
      have : i ∈ T ++ [t] ↔ i ∈ T := by simp [Ne.symm he]
      simp only [this]
theorem Took.back {L0 L : List Int} {T : List Nat} {r t : Nat} (h : Took L0 T r L) (ht : T[r]? = some t) : setE L t = 0 ∧ Took L0 T (r + 1) (setL L t 0) := by
  have hr := lt_of_get ht
  have hd : T.drop r = t :: T.drop (r + 1) := by
    rw [List.drop_eq_getElem_cons hr]
    obtain ⟨_, e⟩ := List.getElem?_eq_some_iff.1 ht
    rw [e]
  have hg := h.get t
  rw [if_pos (by rw [hd]; exact List.mem_cons_self ..)] at hg
  have hu : usedB L t = true := by simp [usedB, hg]
  have hnd : (T.drop r).Nodup := h.nodup.sublist (List.drop_sublist _ _)
  rw [hd] at hnd
  have hnot : t ∉ T.drop (r + 1) := (List.nodup_cons.1 hnd).1
  refine ⟨by unfold setE; rw [if_pos hu], h.zero, h.nodup, fun i => ?_⟩
  unfold setL
  rw [if_pos hu, Int.toNat_natCast, List.getElem?_set]
  by_cases he : t = i
  · subst he
    rw [if_pos rfl, if_pos (lt_of_get hg), if_neg hnot, h.zero t (List.mem_of_getElem? ht)]
  · rw [if_neg he, h.get i, hd]
    have : i ∈ t :: T.drop (r + 1) ↔ i ∈ T.drop (r + 1) := by simp [Ne.symm he]
    simp only [this]
theorem Took.done {L0 L : List Int} {T : List Nat} (h : Took L0 T T.length L) : L = L0 := by
  apply List.ext_getElem?
  intro i
  rw [h.get i]
  simp
/-- What taking one behind another gives. -/
def Seq : List Int → List Nat → List Int → Prop
  | L, [], L' => L = L'
  | L, t :: T, L' => findZ L = some t ∧ Seq (takeL L) T L'
theorem Seq.snoc : ∀ {T : List Nat} {L L' : List Int} {t : Nat}, Seq L T L' → findZ L' = some t → Seq L (T ++ [t]) (takeL L')
  | [], L, L', t, h, ht => by
    have h : L = L' := h
    subst h
    exact ⟨ht, rfl⟩
  | x :: T, L, L', t, h, ht => ⟨h.1, Seq.snoc h.2 ht⟩
theorem Seq.at_ {L L' : List Int} {T : List Nat} {r t : Nat} (h : Seq L (T.drop r) L') (ht : T[r]? = some t) : takeE L = 0 ∧ takeN L = t ∧ Seq (takeL L) (T.drop (r + 1)) L' := by
  have hr := lt_of_get ht
  rw [List.drop_eq_getElem_cons hr] at h
  obtain ⟨_, e⟩ := List.getElem?_eq_some_iff.1 ht
  rw [e] at h
  have := take_some h.1
  exact ⟨this.2.1, this.1, h.2⟩
def natI (T : List Nat) : List Int := T.map fun t : Nat => (t : Int)
theorem natI_len (T : List Nat) : (natI T).length = T.length := List.length_map _
theorem natI_get {T : List Nat} {r t : Nat} (h : T[r]? = some t) : (natI T)[r]? = some (t : Int) := by simp [natI, h]
theorem natI_snoc (T : List Nat) (t : Nat) : natI (T ++ [t]) = natI T ++ [(t : Int)] := by simp [natI]
theorem take_or (L : List Int) : (takeE L = 4 ∧ takeL L = L) ∨ ∃ t, findZ L = some t ∧ takeE L = 0 ∧ takeN L = t := by
  cases hf : findZ L with
  | none => exact .inl ⟨(take_none hf).2.1, (take_none hf).2.2⟩
  | some t => exact .inr ⟨t, rfl, (take_some hf).2.1, (take_some hf).1⟩
end Go.Proofs.Yteoekfmjlmpmgaa
