/- How many writes wait on a disk on which superblocks are written: eight at most, and none while it has power. No program here. No statement is proved here. -/
import Derived.Test.YtonjapphhbhcpaaDoorUDk2
namespace Go.Proofs.YtonjapphhbhcpaaDoor
open Go.RowKit
set_option maxRecDepth 100000

def Dk.brief (d : Dk) : Prop := (d.wait = [] ∨ d.down = true) ∧ d.wait.length ≤ 8
theorem Dk.brief_new (n : Nat) : (Dk.new n).brief := ⟨.inl rfl, Nat.zero_le _⟩
theorem Dk.brief_arm {d : Dk} (h : d.brief) (a : Int) (b : Bool) : (d.arm a b).brief := h
theorem Dk.brief_crash (d : Dk) (keep : List Bool) : (d.crash keep).brief := ⟨.inl rfl, Nat.zero_le _⟩
theorem Dk.brief_plant {d : Dk} (h : d.brief) (a : Int) (l : List Int) : (d.plant a l).brief := by
  unfold Dk.plant
  split
  · refine ⟨?_, Nat.le_trans (List.length_filter_le _ _) h.2⟩
    rcases h.1 with h1 | h1
    · left
      show but d.wait a.toNat = []
      rw [h1]
      rfl
    · exact .inr h1
  · exact h
theorem wrs_down {m : Nat} {b : List Int} (hb : b.length = 4096) : ∀ (n i : Nat) (d : Dk), m * 8 + i + n ≤ d.many → i + n ≤ 8 → (wrs (m : Int) b n i d).1 ≠ 0 → (wrs (m : Int) b n i d).2.down = true
  | 0, i, d, _, _, h => absurd rfl h
  | n + 1, i, d, hm, hi, h => by
    have hk : m * 8 + i < d.many := by omega
    have hl : (rowK b i).length = 512 := rowK_len hb (by omega)
    have e : (m : Int) * 8 + i = ((m * 8 + i : Nat) : Int) := by omega
    have hbad : d.badW ((m * 8 + i : Nat) : Int) (rowK b i).length = false := by unfold Dk.badW; rw [hl, decide_eq_true (show 0 ≤ ((m * 8 + i : Nat) : Int) ∧ ((m * 8 + i : Nat) : Int) < d.many by omega)]; rfl
    by_cases hdn : d.down = true
    · have hw : d.writeE ((m : Int) * 8 + i) (rowK b i) = 5 := by unfold Dk.writeE; rw [if_pos hdn]
      have hw2 : d.write ((m : Int) * 8 + i) (rowK b i) = d := by unfold Dk.write; rw [if_pos hdn]
      rw [wrs_bad (by rw [hw]; decide), hw2]
      exact hdn
    · have hdf : d.down = false := by simpa using hdn
      cases hg : d.goes with
      | true =>
        have hw : d.writeE ((m : Int) * 8 + i) (rowK b i) = 5 := by unfold Dk.writeE Dk.errA; rw [e, hdf, hbad, hg]; rfl
        have ha : d.acted = { d with down := true } := by unfold Dk.acted; rw [hg]; rfl
        rw [wrs_bad (by rw [hw]; decide)]
        cases hdo : d.done with
        | true =>
          have hw2 : d.write ((m : Int) * 8 + i) (rowK b i) = d.acted.put (m * 8 + i) (rowK b i) := by unfold Dk.write Dk.does; rw [e, hdf, hbad, hg, hdo, Int.toNat_natCast]; rfl
          rw [hw2, ha]
          rfl
        | false =>
          have hw2 : d.write ((m : Int) * 8 + i) (rowK b i) = d.acted := by unfold Dk.write Dk.does; rw [e, hdf, hbad, hg, hdo]; rfl
          rw [hw2, ha]
      | false =>
        have hw : d.writeE ((m : Int) * 8 + i) (rowK b i) = 0 := by unfold Dk.writeE Dk.errA; rw [e, hdf, hbad, hg]; rfl
        have hw2 : d.write ((m : Int) * 8 + i) (rowK b i) = d.acted.put (m * 8 + i) (rowK b i) := by unfold Dk.write Dk.does; rw [e, hdf, hbad, hg, Int.toNat_natCast]; rfl
        rw [wrs_good hw, hw2] at h ⊢
        have hma : (d.acted.put (m * 8 + i) (rowK b i)).many = d.many := d.acted_many
        exact wrs_down hb n (i + 1) _ (by rw [hma]; omega) (by omega) h
theorem wlS_len (m : Nat) (b : List Int) (i j : Nat) : (wlS m b i j).length = j := by simp [wlS]
theorem Dk.brief_swr {d : Dk} (h : d.brief) (s : Sup) : (d.swr s).2.brief := by
  by_cases hc : s.ok = true ∧ s.pag = d.pages
  rotate_left
  · have e : d.swr s = (1, d) := by unfold Dk.swr; rw [if_neg hc]
    rw [e]
    exact h
  obtain ⟨hs, hd⟩ := hc
  obtain ⟨p, hp2, hp⟩ := Sup.page hs
  have h1 := Sup.ok_yes hs
  have hm : p * 8 + 0 + 8 ≤ d.many := by unfold Dk.pages at hd; omega
  have e : d.swr s = if (wrs (p : Int) s.make 8 0 d).1 = 0 then ((wrs (p : Int) s.make 8 0 d).2.syncE, (wrs (p : Int) s.make 8 0 d).2.sync) else wrs (p : Int) s.make 8 0 d := by
    unfold Dk.swr
    rw [if_pos ⟨hs, hd⟩, pwr_is hs hp hd hp2]
  rw [e]
  by_cases hdn : d.down = true
  · have hw : d.writeE ((p : Int) * 8 + (0 : Nat)) (rowK s.make 0) = 5 := by unfold Dk.writeE; rw [if_pos hdn]
    have hw2 : d.write ((p : Int) * 8 + (0 : Nat)) (rowK s.make 0) = d := by unfold Dk.write; rw [if_pos hdn]
    have e2 : wrs (p : Int) s.make 8 0 d = (5, d) := by
      rw [wrs_bad (by rw [hw]; decide), hw, hw2]
    rw [e2]
    exact h
  · have hdf : d.down = false := by simpa using hdn
    have hw0 : d.wait = [] := by
      rcases h.1 with h1 | h1
      · exact h1
      · exact absurd h1 hdn
    obtain ⟨j, q1, q2, q3, q4, q5⟩ := wrs_run (m := p) (Sup.make_len hs) 8 0 d hm (by omega)
    have q6 := wrs_down (m := p) (Sup.make_len hs) 8 0 d hm (by omega)
    rw [hw0, List.nil_append] at q2
    generalize wrs (p : Int) s.make 8 0 d = r at *
    obtain ⟨er, d2⟩ := r
    dsimp only at *
    have hl : d2.wait.length ≤ 8 := by rw [q2, wlS_len]; exact q1
    by_cases hz : er = 0
    · rw [if_pos hz]
      obtain ⟨-, q7⟩ := q5 hz
      rw [hdf] at q7
      dsimp only
      cases hg : d2.goes with
      | true =>
        have ha : d2.acted = { d2 with down := true } := by unfold Dk.acted; rw [hg]; rfl
        cases hdo : d2.done with
        | true =>
          have hsy : d2.sync = d2.acted.settle := by unfold Dk.sync Dk.does; rw [q7, hg, hdo]; rfl
          rw [hsy]
          exact ⟨.inl rfl, Nat.zero_le _⟩
        | false =>
          have hsy : d2.sync = d2.acted := by unfold Dk.sync Dk.does; rw [q7, hg, hdo]; rfl
          rw [hsy, ha]
          exact ⟨.inr rfl, hl⟩
      | false =>
        have hsy : d2.sync = d2.acted.settle := by unfold Dk.sync Dk.does; rw [q7, hg]; rfl
        rw [hsy]
        exact ⟨.inl rfl, Nat.zero_le _⟩
    · rw [if_neg hz]
      exact ⟨.inr (q6 hz), hl⟩
end Go.Proofs.YtonjapphhbhcpaaDoor
