/- A disk of sectors whose writes wait, as plain words: no program here. No statement is proved here. -/
namespace Go.Proofs.YtlpnhfceblbllaaDoor
/-- What stands in some sectors. -/
abbrev Secs := Nat → Option (List Int)
def upd (f : Secs) (k : Nat) (r : List Int) : Secs := fun i => if i = k then some r else f i
theorem upd_same (f : Secs) (k : Nat) (r : List Int) : upd f k r k = some r := by simp [upd]
theorem upd_other (f : Secs) {k i : Nat} (r : List Int) (h : i ≠ k) : upd f k r i = f i := by simp [upd, h]
/-- Writes laid over it, one behind another. -/
def over (f : Secs) (l : List (Nat × List Int)) : Secs := l.foldl (fun f p => upd f p.1 p.2) f
theorem over_nil (f : Secs) : over f [] = f := rfl
theorem over_cons (f : Secs) (k : Nat) (r : List Int) (l : List (Nat × List Int)) : over f ((k, r) :: l) = over (upd f k r) l := rfl
theorem over_snoc (f : Secs) (l : List (Nat × List Int)) (k : Nat) (r : List Int) : over f (l ++ [(k, r)]) = upd (over f l) k r := by simp [over]
/-- What it comes to hangs at each place on what was there alone. -/
theorem over_at {f g : Secs} (l : List (Nat × List Int)) {i : Nat} (h : f i = g i) : over f l i = over g l i := by
  induction l generalizing f g with
  | nil => exact h
  | cons p l ih =>
    refine ih (f := upd f p.1 p.2) (g := upd g p.1 p.2) ?_
    by_cases e : i = p.1
    · rw [e, upd_same, upd_same]
    · rw [upd_other _ _ e, upd_other _ _ e]; exact h
/-- The writes but those of a sector. -/
def but (l : List (Nat × List Int)) (k : Nat) : List (Nat × List Int) := l.filter fun p => decide (p.1 ≠ k)
theorem over_but_other (f : Secs) (l : List (Nat × List Int)) {k i : Nat} (h : i ≠ k) : over f (but l k) i = over f l i := by
  induction l generalizing f with
  | nil => rfl
  | cons p l ih =>
    unfold but
    by_cases e : p.1 = k
    · rw [List.filter_cons_of_neg (by simp [e])]
      refine (ih f).trans (over_at (f := f) (g := upd f p.1 p.2) l (upd_other _ _ (by rw [e]; exact h)).symm)
    · rw [List.filter_cons_of_pos (by simp [e])]
      exact ih _
theorem over_but_same (f : Secs) (l : List (Nat × List Int)) (k : Nat) : over f (but l k) k = f k := by
  induction l generalizing f with
  | nil => rfl
  | cons p l ih =>
    unfold but
    by_cases e : p.1 = k
    · rw [List.filter_cons_of_neg (by simp [e])]
      exact ih f
    · rw [List.filter_cons_of_pos (by simp [e])]
      exact (ih _).trans (upd_other _ _ (fun h => e h.symm))
/-- The writes that stay in a loss of power. -/
def stay : List (Nat × List Int) → List Bool → List (Nat × List Int)
  | p :: l, b :: bs => if b then p :: stay l bs else stay l bs
  | _, _ => []
/-- A disk. -/
structure Dk where
  many : Nat
  safe : Secs
  now : Secs
  wait : List (Nat × List Int)
  armed : Bool
  acts : Nat
  done : Bool
  down : Bool
def zeroRow : List Int := List.replicate 512 0
/-- What is read is what waits, over what is safe; a sector has 512 bytes. -/
structure Dk.ok (d : Dk) : Prop where
  now : ∀ k, d.now k = over d.safe d.wait k
  rowS : ∀ k r, d.safe k = some r → r.length = 512 ∧ k < d.many
  rowW : ∀ p ∈ d.wait, p.2.length = 512 ∧ p.1 < d.many
def Dk.new (n : Nat) : Dk := ⟨n, fun _ => none, fun _ => none, [], false, 0, false, false⟩
theorem Dk.new_ok (n : Nat) : (Dk.new n).ok := ⟨fun _ => rfl, fun _ _ h => (by cases h), fun _ h => (by cases h)⟩
theorem over_rows {f : Secs} {l : List (Nat × List Int)} {n : Nat} (hf : ∀ k r, f k = some r → r.length = 512 ∧ k < n) (hl : ∀ p ∈ l, p.2.length = 512 ∧ p.1 < n) : ∀ k r, over f l k = some r → r.length = 512 ∧ k < n := by
  induction l generalizing f with
  | nil => exact hf
  | cons p l ih =>
    refine ih (f := upd f p.1 p.2) (fun k r h => ?_) fun q hq => hl q (by simp [hq])
    by_cases e : k = p.1
    · rw [e, upd_same] at h
      injection h with h
      subst h
      rw [e]
      exact hl p (by simp)
    · rw [upd_other _ _ e] at h
      exact hf k r h
theorem Dk.ok.rowN {d : Dk} (h : d.ok) : ∀ k r, d.now k = some r → r.length = 512 ∧ k < d.many := fun k r e => over_rows h.rowS h.rowW k r (by rw [← h.now k]; exact e)
/-- The switch set. -/
def Dk.arm (d : Dk) (acts : Int) (done : Bool) : Dk := { d with armed := true, acts := acts.toNat, done := done }
theorem Dk.arm_ok {d : Dk} (h : d.ok) (a : Int) (b : Bool) : (d.arm a b).ok := ⟨h.now, h.rowS, h.rowW⟩
/-- A loss of power. -/
def Dk.crash (d : Dk) (keep : List Bool) : Dk := { d with safe := over d.safe (stay d.wait keep), now := over d.safe (stay d.wait keep), wait := [], armed := false, down := false }
theorem stay_mem {l : List (Nat × List Int)} {bs : List Bool} {p : Nat × List Int} (h : p ∈ stay l bs) : p ∈ l := by
  induction l generalizing bs with
  | nil => cases bs <;> simp [stay] at h
  | cons q l ih => cases bs with
    | nil => simp [stay] at h
    | cons b bs =>
      rw [stay] at h
      by_cases hb : b = true
      · rw [if_pos hb] at h
        rcases List.mem_cons.1 h with e | h
        · rw [e]; simp
        · exact List.mem_cons_of_mem _ (ih h)
      · rw [if_neg hb] at h
        exact List.mem_cons_of_mem _ (ih h)
theorem Dk.crash_ok {d : Dk} (h : d.ok) (keep : List Bool) : (d.crash keep).ok :=
  ⟨fun _ => rfl, over_rows h.rowS fun p hp => h.rowW p (stay_mem hp), fun _ hp => (by cases hp)⟩
/-- Bytes as a sector has them. -/
def asRow (l : List Int) : List Int := l.take 512 ++ List.replicate (512 - l.length) 0
theorem asRow_len (l : List Int) : (asRow l).length = 512 := by
  rw [asRow, List.length_append, List.length_take, List.length_replicate]; omega
/-- Bytes planted. -/
def Dk.plant (d : Dk) (at_ : Int) (l : List Int) : Dk :=
  if 0 ≤ at_ ∧ at_ < d.many then { d with safe := upd d.safe at_.toNat (asRow l), now := upd d.now at_.toNat (asRow l), wait := but d.wait at_.toNat } else d
theorem Dk.plant_ok {d : Dk} (h : d.ok) (at_ : Int) (l : List Int) : (d.plant at_ l).ok := by
  unfold Dk.plant
  by_cases c : 0 ≤ at_ ∧ at_ < d.many
  · rw [if_pos c]
    refine ⟨fun k => ?_, fun k r e => ?_, fun p hp => h.rowW p (List.mem_filter.1 hp).1⟩
    · by_cases e : k = at_.toNat
      · rw [e]
        exact (upd_same _ _ _).trans ((over_but_same _ _ _).trans (upd_same _ _ _)).symm
      · refine (upd_other _ _ e).trans ((h.now k).trans ?_)
        rw [over_but_other _ _ e]
        exact over_at _ (upd_other _ _ e).symm
    · by_cases e2 : k = at_.toNat
      · rw [e2] at e
        have e := (upd_same _ _ _).symm.trans e
        injection e with e
        rw [← e, e2]
        exact ⟨asRow_len l, show at_.toNat < d.many by omega⟩
      · exact h.rowS k r ((upd_other _ _ e2).symm.trans e)
  · rw [if_neg c]; exact h
/-- A sector as it is read. -/
def Dk.look (d : Dk) (k : Nat) : List Int := (d.now k).getD zeroRow
theorem Dk.ok.look_len {d : Dk} (h : d.ok) (k : Nat) : (d.look k).length = 512 := by
  unfold Dk.look
  cases e : d.now k with
  | none => exact List.length_replicate
  | some r => exact (h.rowN k r e).1
/-- An act: is it carried out; does the disk go down on it; the disk ahead of it. -/
def Dk.goes (d : Dk) : Bool := d.armed && d.acts == 0
def Dk.acted (d : Dk) : Dk := if d.goes then { d with down := true } else if d.armed then { d with acts := d.acts - 1 } else d
def Dk.does (d : Dk) : Bool := if d.goes then d.done else true
/-- An act's error. -/
def Dk.errA (d : Dk) : Int := if d.goes then 5 else 0
/-- A sector's bytes written: the error, and the disk. -/
def Dk.badW (d : Dk) (at_ : Int) (n : Nat) : Bool := !(decide (0 ≤ at_ ∧ at_ < d.many) && n == 512)
def Dk.put (d : Dk) (k : Nat) (l : List Int) : Dk := { d with now := upd d.now k l, wait := d.wait ++ [(k, l)] }
def Dk.writeE (d : Dk) (at_ : Int) (l : List Int) : Int := if d.down then 5 else if d.badW at_ l.length then 1 else d.errA
def Dk.write (d : Dk) (at_ : Int) (l : List Int) : Dk := if d.down then d else if d.badW at_ l.length then d else if d.does then d.acted.put at_.toNat l else d.acted
theorem Dk.acted_ok {d : Dk} (h : d.ok) : d.acted.ok := by
  unfold Dk.acted
  split
  · exact ⟨h.now, h.rowS, h.rowW⟩
  · split
    · exact ⟨h.now, h.rowS, h.rowW⟩
    · exact h
theorem Dk.acted_many (d : Dk) : d.acted.many = d.many := by
  unfold Dk.acted
  split
  · rfl
  · split <;> rfl
theorem Dk.put_ok {d : Dk} (h : d.ok) {k : Nat} {l : List Int} (hk : k < d.many) (hl : l.length = 512) : (d.put k l).ok := by
  refine ⟨fun i => ?_, h.rowS, fun p hp => ?_⟩
  · show upd d.now k l i = over d.safe (d.wait ++ [(k, l)]) i
    rw [over_snoc]
    by_cases e : i = k
    · rw [e, upd_same, upd_same]
    · rw [upd_other _ _ e, upd_other _ _ e, h.now]
  · rcases List.mem_append.1 hp with hp | hp
    · exact h.rowW p hp
    · rw [List.mem_singleton] at hp
      subst hp
      exact ⟨hl, hk⟩
theorem Dk.badW_no {d : Dk} {at_ : Int} {n : Nat} (h : d.badW at_ n = false) : 0 ≤ at_ ∧ at_ < d.many ∧ n = 512 := by
  unfold Dk.badW at h
  simp at h
  omega
theorem Dk.write_ok {d : Dk} (h : d.ok) (at_ : Int) (l : List Int) : (d.write at_ l).ok := by
  unfold Dk.write
  by_cases h1 : d.down = true
  · rw [if_pos h1]; exact h
  rw [if_neg h1]
  cases h2 : d.badW at_ l.length
  · rw [if_neg (by simp)]
    obtain ⟨a, b, c⟩ := Dk.badW_no h2
    split
    · exact Dk.put_ok (Dk.acted_ok h) (by rw [Dk.acted_many]; omega) c
    · exact Dk.acted_ok h
  · rw [if_pos rfl]; exact h
/-- All that waits made safe. -/
def Dk.settle (d : Dk) : Dk := { d with safe := over d.safe d.wait, wait := [] }
def Dk.syncE (d : Dk) : Int := if d.down then 5 else d.errA
def Dk.sync (d : Dk) : Dk := if d.down then d else if d.does then d.acted.settle else d.acted
theorem Dk.settle_ok {d : Dk} (h : d.ok) : d.settle.ok := ⟨h.now, over_rows h.rowS h.rowW, fun _ hp => (by cases hp)⟩
theorem Dk.sync_ok {d : Dk} (h : d.ok) : d.sync.ok := by
  unfold Dk.sync
  split
  · exact h
  · split
    · exact Dk.settle_ok (Dk.acted_ok h)
    · exact Dk.acted_ok h
/-- A sector read: the error. -/
def Dk.readE (d : Dk) (at_ : Int) : Int := if d.down then 5 else if 0 ≤ at_ ∧ at_ < d.many then 0 else 1
/-- A row of sectors with one more on top: the first of its place goes, or it comes last. -/
def laidL : List (Nat × List Int) → Nat × List Int → List (Nat × List Int)
  | [], p => [p]
  | q :: l, p => if q.1 = p.1 then p :: l else q :: laidL l p
def keysL (l : List (Nat × List Int)) : List Nat := l.map (·.1)
theorem laidL_keys (l : List (Nat × List Int)) (p : Nat × List Int) : keysL (laidL l p) = if p.1 ∈ keysL l then keysL l else keysL l ++ [p.1] := by
  induction l with
  | nil => simp [laidL, keysL]
  | cons q l ih =>
    rw [laidL]
    by_cases e : q.1 = p.1
    · rw [if_pos e]; simp [keysL, e]
    · rw [if_neg e]
      show q.1 :: keysL (laidL l p) = _
      rw [ih]
      have e2 : ¬ p.1 = q.1 := fun h => e h.symm
      by_cases m : p.1 ∈ keysL l
      · rw [if_pos m, if_pos (by show p.1 ∈ q.1 :: keysL l; simp [m])]; rfl
      · rw [if_neg m, if_neg (by show ¬ p.1 ∈ q.1 :: keysL l; simp [m, e2])]; rfl
theorem laidL_nodup {l : List (Nat × List Int)} (h : (keysL l).Nodup) (p : Nat × List Int) : (keysL (laidL l p)).Nodup := by
  rw [laidL_keys]
  split
  · exact h
  · rename_i hn
    exact List.nodup_append.2 ⟨h, by simp, by rintro a ha b hb rfl; simp at hb; subst hb; exact hn ha⟩
theorem over_none {f : Secs} {l : List (Nat × List Int)} {i : Nat} (h : i ∉ keysL l) : over f l i = f i := by
  induction l generalizing f with
  | nil => rfl
  | cons p l ih =>
    have h1 : i ≠ p.1 := fun e => h (by rw [e]; exact List.mem_cons_self ..)
    exact (ih (f := upd f p.1 p.2) fun hm => h (List.mem_cons_of_mem _ hm)).trans (upd_other _ _ h1)
theorem over_laid {f : Secs} {l : List (Nat × List Int)} (h : (keysL l).Nodup) (p : Nat × List Int) (i : Nat) : over f (laidL l p) i = upd (over f l) p.1 p.2 i := by
  induction l generalizing f with
  | nil => rfl
  | cons q l ih =>
    have hn : q.1 ∉ keysL l ∧ (keysL l).Nodup := List.nodup_cons.1 h
    rw [laidL]
    by_cases e : q.1 = p.1
    · rw [if_pos e]
      show over (upd f p.1 p.2) l i = upd (over (upd f q.1 q.2) l) p.1 p.2 i
      by_cases hi : i = p.1
      · rw [hi, upd_same, over_none (by rw [← e]; exact hn.1), upd_same]
      · rw [upd_other _ _ hi]
        exact over_at _ (by rw [upd_other _ _ hi, upd_other _ _ (by rw [e]; exact hi)])
    · rw [if_neg e]
      exact ih hn.2
def noSecs : Secs := fun _ => none
end Go.Proofs.YtlpnhfceblbllaaDoor
