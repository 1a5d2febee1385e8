/- A disk whose rows are all of bytes, as plain words: no program here. No statement is proved here. -/
import Derived.Test.YtonjapphhbhcpaaDoorGKp
namespace Go.Proofs.YtonjapphhbhcpaaDoor
open Go.RowKit
set_option maxRecDepth 100000

/-- Whatever stands there or waits is of bytes. -/
structure Dk.allB (d : Dk) : Prop where
  safe : ∀ k r, d.safe k = some r → isB r
  wait : ∀ p ∈ d.wait, isB p.2
theorem over_isB : ∀ (l : List (Nat × List Int)) (f : Secs), (∀ k r, f k = some r → isB r) → (∀ p ∈ l, isB p.2) → ∀ k r, over f l k = some r → isB r
  | [], _, hf, _, k, r, h => hf k r h
  | p :: l, f, hf, hl, k, r, h => over_isB l (upd f p.1 p.2) (fun j x e => by
      by_cases c : j = p.1
      · rw [c, upd_same] at e
        injection e with e
        rw [← e]
        exact hl p (by simp)
      · rw [upd_other _ _ c] at e
        exact hf j x e) (fun q hq => hl q (by simp [hq])) k r h
theorem Dk.allB.byte {d : Dk} (h : d.allB) (ho : d.ok) : d.byte := fun k => by
  unfold Dk.look
  cases e : d.now k with
  | none => exact zB_byte 512
  | some r => exact over_isB _ _ h.safe h.wait k r (by rw [← ho.now k]; exact e)
theorem Dk.allB.new (n : Nat) : (Dk.new n).allB := ⟨(fun _ _ h => nomatch h), (fun _ h => nomatch h)⟩
theorem Dk.allB.acted {d : Dk} (h : d.allB) : d.acted.allB := by
  unfold Dk.acted
  split
  · exact ⟨h.safe, h.wait⟩
  · split
    · exact ⟨h.safe, h.wait⟩
    · exact h
theorem Dk.allB.put {d : Dk} (h : d.allB) {k : Nat} {l : List Int} (hl : isB l) : (d.put k l).allB := ⟨h.safe, fun p hp => by
  rcases List.mem_append.1 hp with hp | hp
  · exact h.wait p hp
  · rw [List.mem_singleton] at hp
    rw [hp]
    exact hl⟩
theorem Dk.allB.write {d : Dk} (h : d.allB) (at_ : Int) {l : List Int} (hl : isB l) : (d.write at_ l).allB := by
  unfold Dk.write
  split
  · exact h
  · split
    · exact h
    · split
      · exact h.acted.put hl
      · exact h.acted
theorem Dk.allB.wrs (number : Int) {b : List Int} (hb : isB b) : ∀ (n i : Nat) (d : Dk), d.allB → (wrs number b n i d).2.allB
  | 0, _, _, h => h
  | n + 1, i, d, h => by
    unfold Go.Proofs.YtonjapphhbhcpaaDoor.wrs
    split
    · exact Dk.allB.wrs number hb n (i + 1) _ (h.write _ (rowK_byte hb i))
    · exact h.write _ (rowK_byte hb i)
theorem Dk.allB.pwr {d : Dk} (h : d.allB) (number kind : Int) {l : List Int} (hl : isB l) : (d.pwr number kind l).2.allB := by
  unfold Dk.pwr
  split
  · split
    · exact Dk.allB.wrs number (pageL_byte hl) 8 0 d h
    · exact h
  · exact h
theorem Dk.allB.sync {d : Dk} (h : d.allB) : d.sync.allB := by
  unfold Dk.sync
  split
  · exact h
  · split
    · exact ⟨over_isB _ _ h.acted.safe h.acted.wait, fun _ hp => by cases hp⟩
    · exact h.acted
theorem Dk.allB.crash {d : Dk} (h : d.allB) (bs : List Bool) : (d.crash bs).allB := ⟨over_isB _ _ h.safe fun p hp => h.wait p (stay_mem hp), fun _ hp => by cases hp⟩
theorem Dk.allB.arm {d : Dk} (h : d.allB) (a : Int) (b : Bool) : (d.arm a b).allB := ⟨h.safe, h.wait⟩
theorem asRow_byte {l : List Int} (h : isB l) : isB (asRow l) := by
  unfold asRow
  exact (h.take' 512).append2 (fun b hb => by have := List.eq_of_mem_replicate hb; omega)
theorem Dk.allB.plant {d : Dk} (h : d.allB) (a : Int) {l : List Int} (hl : isB l) : (d.plant a l).allB := by
  unfold Dk.plant
  split
  · refine ⟨fun k r e => ?_, fun p hp => h.wait p (List.mem_filter.1 hp).1⟩
    by_cases c : k = a.toNat
    · rw [c] at e
      have e := (upd_same _ _ _).symm.trans e
      injection e with e
      rw [← e]
      exact asRow_byte hl
    · exact h.safe k r ((upd_other _ _ c).symm.trans e)
  · exact h
theorem wrs_many (number : Int) (b : List Int) : ∀ (n i : Nat) (d : Dk), (wrs number b n i d).2.many = d.many
  | 0, _, _ => rfl
  | n + 1, i, d => by
    unfold Go.Proofs.YtonjapphhbhcpaaDoor.wrs
    split
    · exact (wrs_many number b n (i + 1) _).trans (d.write_many _ _)
    · exact d.write_many _ _
theorem Dk.pwr_many (d : Dk) (number kind : Int) (l : List Int) : (d.pwr number kind l).2.many = d.many := by
  unfold Dk.pwr
  split
  · split
    · exact wrs_many _ _ _ _ _
    · rfl
  · rfl
theorem Dk.sync_many (d : Dk) : d.sync.many = d.many := by
  unfold Dk.sync
  split
  · rfl
  · split
    · exact d.acted_many
    · exact d.acted_many
theorem Dk.plant_many (d : Dk) (a : Int) (l : List Int) : (d.plant a l).many = d.many := by
  unfold Dk.plant
  split
  · rfl
  · rfl
end Go.Proofs.YtonjapphhbhcpaaDoor
