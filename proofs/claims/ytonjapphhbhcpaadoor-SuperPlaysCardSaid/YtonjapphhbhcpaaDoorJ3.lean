/- A disk of sectors whose writes wait, as plain words: no program here. A map from numbers to rows of bytes, as a call's own: which row stands at each number. A disk of package block as it lies: the relation. A disk's box read, written, and left alone. Package block's simple calls: contracts. No statement is proved here. -/
import Derived.Test.YtonjapphhbhcpaaDoorJ15
import Derived.Maps.OwnSet
import Derived.Maps.OwnOps
import Derived.Maps.RangeWalk
import Derived.Maps.Views
import Derived.Carry
namespace Go.Proofs.YtonjapphhbhcpaaDoor
/-- What stands in some sectors. -/
abbrev Secs := Nat → Option (List Int)
def upd (f : Secs) (k : Nat) (r : List Int) : Secs := fun i => if i = k then some r else f i
theorem upd_same (f : Secs) (k : Nat) (r : List Int) : upd f k r k = some r := by simp [upd]
theorem upd_other (f : Secs) {k i : Nat} (r : List Int) (h : i ≠ k) : upd f k r i = f i := by simp [upd, h]
/-- Writes laid over it, one behind another. -/
def over (f : Secs) (l : List (Nat × List Int)) : Secs := l.foldl (fun f p => upd f p.1 p.2) f
theorem over_nil (f : Secs) : over f [] = f := rfl
theorem over_cons (f : Secs) (k : Nat) (r : List Int) (l : List (Nat × List Int)) : over f ((k, r) :: l) = over (upd f k r) l := rfl
theorem over_snoc (f : Secs) (l : List (Nat × List Int)) (k : Nat) (r : List Int) : over f (l ++ [(k, r)]) = upd (over f l) k r := by simp [over]
/-- What it comes to hangs at each place on what was there alone. -/
theorem over_at {f g : Secs} (l : List (Nat × List Int)) {i : Nat} (h : f i = g i) : over f l i = over g l i := by
  induction l generalizing f g with
  | nil => exact h
  | cons p l ih =>
    refine ih (f := upd f p.1 p.2) (g := upd g p.1 p.2) ?_
    by_cases e : i = p.1
    · rw [e, upd_same, upd_same]
    · rw [upd_other _ _ e, upd_other _ _ e]; exact h
/-- The writes but those of a sector. -/
def but (l : List (Nat × List Int)) (k : Nat) : List (Nat × List Int) := l.filter fun p => decide (p.1 ≠ k)
theorem over_but_other (f : Secs) (l : List (Nat × List Int)) {k i : Nat} (h : i ≠ k) : over f (but l k) i = over f l i := by
  induction l generalizing f with
  | nil => rfl
  | cons p l ih =>
    unfold but
    by_cases e : p.1 = k
    · rw [List.filter_cons_of_neg (by simp [e])]
      refine (ih f).trans (over_at (f := f) (g := upd f p.1 p.2) l (upd_other _ _ (by rw [e]; exact h)).symm)
    · rw [List.filter_cons_of_pos (by simp [e])]
      exact ih _
theorem over_but_same (f : Secs) (l : List (Nat × List Int)) (k : Nat) : over f (but l k) k = f k := by
  induction l generalizing f with
  | nil => rfl
  | cons p l ih =>
    unfold but
    by_cases e : p.1 = k
    · rw [List.filter_cons_of_neg (by simp [e])]
      exact ih f
    · rw [List.filter_cons_of_pos (by simp [e])]
      exact (ih _).trans (upd_other _ _ (fun h => e h.symm))
/-- The writes that stay in a loss of power. -/
def stay : List (Nat × List Int) → List Bool → List (Nat × List Int)
  | p :: l, b :: bs => if b then p :: stay l bs else stay l bs
  | _, _ => []
/-- A disk. -/
structure Dk where
  many : Nat
  safe : Secs
  now : Secs
  wait : List (Nat × List Int)
  armed : Bool
  acts : Nat
  done : Bool
  down : Bool
def zeroRow : List Int := List.replicate 512 0
/-- What is read is what waits, over what is safe; a sector has 512 bytes. -/
structure Dk.ok (d : Dk) : Prop where
  now : ∀ k, d.now k = over d.safe d.wait k
  rowS : ∀ k r, d.safe k = some r → r.length = 512 ∧ k < d.many
  rowW : ∀ p ∈ d.wait, p.2.length = 512 ∧ p.1 < d.many
def Dk.new (n : Nat) : Dk := ⟨n, fun _ => none, fun _ => none, [], false, 0, false, false⟩
theorem Dk.new_ok (n : Nat) : (Dk.new n).ok := ⟨fun _ => rfl, fun _ _ h => (by cases h), fun _ h => (by cases h)⟩
theorem over_rows {f : Secs} {l : List (Nat × List Int)} {n : Nat} (hf : ∀ k r, f k = some r → r.length = 512 ∧ k < n) (hl : ∀ p ∈ l, p.2.length = 512 ∧ p.1 < n) : ∀ k r, over f l k = some r → r.length = 512 ∧ k < n := by
  induction l generalizing f with
  | nil => exact hf
  | cons p l ih =>
    refine ih (f := upd f p.1 p.2) (fun k r h => ?_) fun q hq => hl q (by simp [hq])
    by_cases e : k = p.1
    · rw [e, upd_same] at h
      injection h with h
      subst h
      rw [e]
      exact hl p (by simp)
    · rw [upd_other _ _ e] at h
      exact hf k r h
theorem Dk.ok.rowN {d : Dk} (h : d.ok) : ∀ k r, d.now k = some r → r.length = 512 ∧ k < d.many := fun k r e => over_rows h.rowS h.rowW k r (by rw [← h.now k]; exact e)
/-- The switch set. -/
def Dk.arm (d : Dk) (acts : Int) (done : Bool) : Dk := { d with armed := true, acts := acts.toNat, done := done }
theorem Dk.arm_ok {d : Dk} (h : d.ok) (a : Int) (b : Bool) : (d.arm a b).ok := ⟨h.now, h.rowS, h.rowW⟩
/-- A loss of power. -/
def Dk.crash (d : Dk) (keep : List Bool) : Dk := { d with safe := over d.safe (stay d.wait keep), now := over d.safe (stay d.wait keep), wait := [], armed := false, down := false }
theorem stay_mem {l : List (Nat × List Int)} {bs : List Bool} {p : Nat × List Int} (h : p ∈ stay l bs) : p ∈ l := by
  induction l generalizing bs with
  | nil => cases bs <;> simp [stay] at h
  | cons q l ih => cases bs with
    | nil => simp [stay] at h
    | cons b bs =>
      rw [stay] at h
      by_cases hb : b = true
      · rw [if_pos hb] at h
        rcases List.mem_cons.1 h with e | h
        · rw [e]; simp
        · exact List.mem_cons_of_mem _ (ih h)
      · rw [if_neg hb] at h
        exact List.mem_cons_of_mem _ (ih h)
theorem Dk.crash_ok {d : Dk} (h : d.ok) (keep : List Bool) : (d.crash keep).ok :=
  ⟨fun _ => rfl, over_rows h.rowS fun p hp => h.rowW p (stay_mem hp), fun _ hp => (by cases hp)⟩
/-- Bytes as a sector has them. -/
def asRow (l : List Int) : List Int := l.take 512 ++ List.replicate (512 - l.length) 0
theorem asRow_len (l : List Int) : (asRow l).length = 512 := by
  rw [asRow, List.length_append, List.length_take, List.length_replicate]; omega
/-- Bytes planted. -/
def Dk.plant (d : Dk) (at_ : Int) (l : List Int) : Dk :=
  if 0 ≤ at_ ∧ at_ < d.many then { d with safe := upd d.safe at_.toNat (asRow l), now := upd d.now at_.toNat (asRow l), wait := but d.wait at_.toNat } else d
theorem Dk.plant_ok {d : Dk} (h : d.ok) (at_ : Int) (l : List Int) : (d.plant at_ l).ok := by
  unfold Dk.plant
  by_cases c : 0 ≤ at_ ∧ at_ < d.many
  · rw [if_pos c]
    refine ⟨fun k => ?_, fun k r e => ?_, fun p hp => h.rowW p (List.mem_filter.1 hp).1⟩
    · by_cases e : k = at_.toNat
      · rw [e]
        exact (upd_same _ _ _).trans ((over_but_same _ _ _).trans (upd_same _ _ _)).symm
      · refine (upd_other _ _ e).trans ((h.now k).trans ?_)
        rw [over_but_other _ _ e]
        exact over_at _ (upd_other _ _ e).symm
    · by_cases e2 : k = at_.toNat
      · rw [e2] at e
        have e := (upd_same _ _ _).symm.trans e
        injection e with e
        rw [← e, e2]
        exact ⟨asRow_len l, show at_.toNat < d.many by omega⟩
      · exact h.rowS k r ((upd_other _ _ e2).symm.trans e)
  · rw [if_neg c]; exact h
/-- A sector as it is read. -/
def Dk.look (d : Dk) (k : Nat) : List Int := (d.now k).getD zeroRow
theorem Dk.ok.look_len {d : Dk} (h : d.ok) (k : Nat) : (d.look k).length = 512 := by
  unfold Dk.look
  cases e : d.now k with
  | none => exact List.length_replicate
  | some r => exact (h.rowN k r e).1
/-- An act: is it carried out; does the disk go down on it; the disk ahead of it. -/
def Dk.goes (d : Dk) : Bool := d.armed && d.acts == 0
def Dk.acted (d : Dk) : Dk := if d.goes then { d with down := true } else if d.armed then { d with acts := d.acts - 1 } else d
def Dk.does (d : Dk) : Bool := if d.goes then d.done else true
/-- An act's error. -/
def Dk.errA (d : Dk) : Int := if d.goes then 5 else 0
/-- A sector's bytes written: the error, and the disk. -/
def Dk.badW (d : Dk) (at_ : Int) (n : Nat) : Bool := !(decide (0 ≤ at_ ∧ at_ < d.many) && n == 512)
def Dk.put (d : Dk) (k : Nat) (l : List Int) : Dk := { d with now := upd d.now k l, wait := d.wait ++ [(k, l)] }
def Dk.writeE (d : Dk) (at_ : Int) (l : List Int) : Int := if d.down then 5 else if d.badW at_ l.length then 1 else d.errA
def Dk.write (d : Dk) (at_ : Int) (l : List Int) : Dk := if d.down then d else if d.badW at_ l.length then d else if d.does then d.acted.put at_.toNat l else d.acted
theorem Dk.acted_ok {d : Dk} (h : d.ok) : d.acted.ok := by
  unfold Dk.acted
  split
  · exact ⟨h.now, h.rowS, h.rowW⟩
  · split
    · exact ⟨h.now, h.rowS, h.rowW⟩
    · exact h
theorem Dk.acted_many (d : Dk) : d.acted.many = d.many := by
  unfold Dk.acted
  split
  · rfl
  · split <;> rfl
theorem Dk.put_ok {d : Dk} (h : d.ok) {k : Nat} {l : List Int} (hk : k < d.many) (hl : l.length = 512) : (d.put k l).ok := by
  refine ⟨fun i => ?_, h.rowS, fun p hp => ?_⟩
  · show upd d.now k l i = over d.safe (d.wait ++ [(k, l)]) i
    rw [over_snoc]
    by_cases e : i = k
    · rw [e, upd_same, upd_same]
    · rw [upd_other _ _ e, upd_other _ _ e, h.now]
  · rcases List.mem_append.1 hp with hp | hp
    · exact h.rowW p hp
    · rw [List.mem_singleton] at hp
      subst hp
      exact ⟨hl, hk⟩
theorem Dk.badW_no {d : Dk} {at_ : Int} {n : Nat} (h : d.badW at_ n = false) : 0 ≤ at_ ∧ at_ < d.many ∧ n = 512 := by
  unfold Dk.badW at h
  simp at h
  omega
theorem Dk.write_ok {d : Dk} (h : d.ok) (at_ : Int) (l : List Int) : (d.write at_ l).ok := by
  unfold Dk.write
  by_cases h1 : d.down = true
  · rw [if_pos h1]; exact h
  rw [if_neg h1]
  cases h2 : d.badW at_ l.length
  · rw [if_neg (by simp)]
    obtain ⟨a, b, c⟩ := Dk.badW_no h2
    split
    · exact Dk.put_ok (Dk.acted_ok h) (by rw [Dk.acted_many]; omega) c
    · exact Dk.acted_ok h
  · rw [if_pos rfl]; exact h
/-- All that waits made safe. -/
def Dk.settle (d : Dk) : Dk := { d with safe := over d.safe d.wait, wait := [] }
def Dk.syncE (d : Dk) : Int := if d.down then 5 else d.errA
def Dk.sync (d : Dk) : Dk := if d.down then d else if d.does then d.acted.settle else d.acted
theorem Dk.settle_ok {d : Dk} (h : d.ok) : d.settle.ok := ⟨h.now, over_rows h.rowS h.rowW, fun _ hp => (by cases hp)⟩
theorem Dk.sync_ok {d : Dk} (h : d.ok) : d.sync.ok := by
  unfold Dk.sync
  split
  · exact h
  · split
    · exact Dk.settle_ok (Dk.acted_ok h)
    · exact Dk.acted_ok h
/-- A sector read: the error. -/
def Dk.readE (d : Dk) (at_ : Int) : Int := if d.down then 5 else if 0 ≤ at_ ∧ at_ < d.many then 0 else 1
/-- A row of sectors with one more on top: the first of its place goes, or it comes last. -/
def laidL : List (Nat × List Int) → Nat × List Int → List (Nat × List Int)
  | [], p => [p]
  | q :: l, p => if q.1 = p.1 then p :: l else q :: laidL l p
def keysL (l : List (Nat × List Int)) : List Nat := l.map (·.1)
theorem laidL_keys (l : List (Nat × List Int)) (p : Nat × List Int) : keysL (laidL l p) = if p.1 ∈ keysL l then keysL l else keysL l ++ [p.1] := by
  induction l with
  | nil => simp [laidL, keysL]
  | cons q l ih =>
    rw [laidL]
    by_cases e : q.1 = p.1
    · rw [if_pos e]; simp [keysL, e]
    · rw [if_neg e]
      show q.1 :: keysL (laidL l p) = _
      rw [ih]
      have e2 : ¬ p.1 = q.1 := fun h => e h.symm
      by_cases m : p.1 ∈ keysL l
      · rw [if_pos m, if_pos (by show p.1 ∈ q.1 :: keysL l; simp [m])]; rfl
      · rw [if_neg m, if_neg (by show ¬ p.1 ∈ q.1 :: keysL l; simp [m, e2])]; rfl
theorem laidL_nodup {l : List (Nat × List Int)} (h : (keysL l).Nodup) (p : Nat × List Int) : (keysL (laidL l p)).Nodup := by
  rw [laidL_keys]
  split
  · exact h
  · rename_i hn
    exact List.nodup_append.2 ⟨h, by simp, by rintro a ha b hb rfl; simp at hb; subst hb; exact hn ha⟩
theorem over_none {f : Secs} {l : List (Nat × List Int)} {i : Nat} (h : i ∉ keysL l) : over f l i = f i := by
  induction l generalizing f with
  | nil => rfl
  | cons p l ih =>
    have h1 : i ≠ p.1 := fun e => h (by rw [e]; exact List.mem_cons_self ..)
    exact (ih (f := upd f p.1 p.2) fun hm => h (List.mem_cons_of_mem _ hm)).trans (upd_other _ _ h1)
theorem over_laid {f : Secs} {l : List (Nat × List Int)} (h : (keysL l).Nodup) (p : Nat × List Int) (i : Nat) : over f (laidL l p) i = upd (over f l) p.1 p.2 i := by
  induction l generalizing f with
  | nil => rfl
  | cons q l ih =>
    have hn : q.1 ∉ keysL l ∧ (keysL l).Nodup := List.nodup_cons.1 h
    rw [laidL]
    by_cases e : q.1 = p.1
    · rw [if_pos e]
      show over (upd f p.1 p.2) l i = upd (over (upd f q.1 q.2) l) p.1 p.2 i
      by_cases hi : i = p.1
      · rw [hi, upd_same, over_none (by rw [← e]; exact hn.1), upd_same]
      · rw [upd_other _ _ hi]
        exact over_at _ (by rw [upd_other _ _ hi, upd_other _ _ (by rw [e]; exact hi)])
    · rw [if_neg e]
      exact ih hn.2
def noSecs : Secs := fun _ => none
end Go.Proofs.YtonjapphhbhcpaaDoor
namespace Go.Proofs.YtonjapphhbhcpaaDoor
open Go.RowKit
open Go.Maps (Keyed IsMap Tidy)
set_option maxRecDepth 100000

/-- What a row of bytes is known by in such a map. -/
def encS (g n c : Nat) : DataW Unit := .agg [.lit (.int .i64 (g : Int)), .lit (.int .i64 (n : Int)), .lit (.int .i64 (c : Int))]
def RowR (v : Value) : Option (DataW Unit × List MemPlace) :=
  match v with
  | .slice none 0 0 => some (.nil, [])
  | .slice (some ⟨g, 0, none⟩) n c => some (encS g n c, [])
  | _ => none
theorem rowR_nil : RowR (.slice none 0 0) = some (.nil, []) := rfl
theorem rowR_mk (g n c : Nat) : RowR (.slice (some ⟨g, 0, none⟩) n c) = some (encS g n c, []) := by unfold RowR; rfl
theorem encS_inj {g n c g' n' c' : Nat} (h : encS g n c = encS g' n' c') : g = g' ∧ n = n' ∧ c = c' := by
  unfold encS at h
  injection h with h
  injection h with h1 h
  injection h with h2 h
  injection h with h3 h
  injection h1 with h1; injection h1 with _ h1
  injection h2 with h2; injection h2 with _ h2
  injection h3 with h3; injection h3 with _ h3
  omega
theorem rowR_inv {v : Value} {y : DataW Unit × List MemPlace} (h : RowR v = some y) : (v = .slice none 0 0 ∧ y = (.nil, [])) ∨ ∃ g n c, v = .slice (some ⟨g, 0, none⟩) n c ∧ y = (encS g n c, []) := by
  unfold RowR at h
  split at h
  · injection h with h; exact .inl ⟨rfl, h.symm⟩
  · rename_i g n c
    injection h with h; exact .inr ⟨g, n, c, rfl, h.symm⟩
  · cases h
theorem rowR_at {v : Value} {g n c : Nat} {ps : List MemPlace} (h : RowR v = some (encS g n c, ps)) : v = .slice (some ⟨g, 0, none⟩) n c := by
  rcases rowR_inv h with ⟨-, e⟩ | ⟨g', n', c', rfl, e⟩
  · unfold encS at e; injection e with e; cases e
  · injection e with e
    obtain ⟨rfl, rfl, rfl⟩ := encS_inj e
    rfl
theorem rowR_none {v : Value} {ps : List MemPlace} (h : RowR v = some (.nil, ps)) : v = .slice none 0 0 := by
  rcases rowR_inv h with ⟨e, -⟩ | ⟨g', n', c', rfl, e⟩
  · exact e
  · unfold encS at e; injection e with e; cases e
theorem keyK : Keyed Tryd.prog 3 := Maps.int_keyed Tryd.underlying3
theorem key_wf {k : Int} (h : okInt k) : (Lit.int .i64 k).wf = true := by
  unfold okInt at h
  simp [Lit.wf, IntKind.min, IntKind.max, IntKind.signed, IntKind.bits]
  omega
theorem key_at {k : Int} (h : okInt k) : keyOf Tryd.prog 3 (.int .i64 k) = some (.int .i64 k) := Maps.keyOf_int_mk Tryd.underlying3 (key_wf h)
theorem key_lit (k : Int) : WideAt.IsKeyLit (.int .i64 k) := trivial
/-- Where what a disk is made of lies: from a block on, and not in one of them. -/
structure Base where
  lo : Nat
  off : Option Nat
instance : Coe Nat Base := ⟨fun n => ⟨n, none⟩⟩
/-- A row of bytes of a call's own, that is not empty. -/
def RowAt (w : World) (B : Base) (v : Value) (r : List Int) : Prop := OwnB w B.lo v r ∧ 1 ≤ r.length ∧ ∀ b, v.ownBlock = some b → B.off ≠ some b
theorem RowAt.form {w : World} {B : Base} {v : Value} {r : List Int} (h : RowAt w B v r) : ∃ g c, v = .slice (some ⟨g, 0, none⟩) r.length c ∧ B.lo ≤ g ∧ g < w.heap.size := by
  obtain ⟨⟨h1, h2⟩, h3, -⟩ := h
  rcases h2 with ⟨hv, hz⟩ | ⟨g, cap, cur, hv, hb, hg, hrest⟩
  · omega
  · exact ⟨g, cap, hv, hb, lt_of_block hg⟩
/-- A map's entries as rows: the row at each place, or none. -/
structure MapIs (w : World) (B : Base) (D : DataW Unit) (f : Secs) : Prop where
  tidy : Tidy D
  keys : ∀ k : Int, Maps.has D (.int .i64 k) = true → 0 ≤ k
  rows : ∀ (k : Nat) (r : List Int), f k = some r → ∃ v g n c, RowAt w B v r ∧ v = .slice (some ⟨g, 0, none⟩) n c ∧ ∀ z, D.atKey (.int .i64 (k : Int)) z = encS g n c
  none_ : ∀ k : Nat, f k = none → Maps.has D (.int .i64 (k : Int)) = false
theorem MapIs.start (w : World) (B : Base) : MapIs w B (.map []) noSecs := ⟨Maps.tidy_empty, fun k h => absurd (show false = true from h) (by simp), fun k r h => (by cases h), fun k _ => rfl⟩
theorem MapIs.keep {w w' : World} {B : Base} {D : DataW Unit} {f : Secs} (h : MapIs w B D f) (hk : ∀ v r, RowAt w B v r → RowAt w' B v r) : MapIs w' B D f :=
  ⟨h.tidy, h.keys, fun k r e => by obtain ⟨v, g, n, c, h1, h2⟩ := h.rows k r e; exact ⟨v, g, n, c, hk v r h1, h2⟩, h.none_⟩
theorem lit_ne {a b : Int} (h : a ≠ b) : Lit.int .i64 a ≠ Lit.int .i64 b := fun e => h (by injection e)
theorem MapIs.put {w : World} {B : Base} {D : DataW Unit} {f : Secs} (h : MapIs w B D f) (k : Nat) {v : Value} {r : List Int} (hr : RowAt w B v r) {g n c : Nat} (hv : v = .slice (some ⟨g, 0, none⟩) n c) : MapIs w B (D.put (.int .i64 (k : Int)) (encS g n c)) (upd f k r) := by
  refine ⟨h.tidy.put (key_lit _) _, fun j hj => ?_, fun j x e => ?_, fun j e => ?_⟩
  · by_cases e : j = (k : Int)
    · omega
    · rw [Maps.has_put_other (lit_ne e)] at hj; exact h.keys j hj
  · by_cases ej : j = k
    · subst ej
      rw [upd_same] at e
      injection e with e
      subst e
      exact ⟨v, g, n, c, hr, hv, fun z => Maps.atKey_put_same h.tidy.isMap (key_lit _) _ _⟩
    · rw [upd_other _ _ ej] at e
      obtain ⟨v', g', n', c', h1, h2, h3⟩ := h.rows j x e
      exact ⟨v', g', n', c', h1, h2, fun z => by rw [Maps.atKey_put_other (lit_ne (by omega))]; exact h3 z⟩
  · by_cases ej : j = k
    · subst ej; rw [upd_same] at e; cases e
    · rw [upd_other _ _ ej] at e
      rw [Maps.has_put_other (lit_ne (by omega))]
      exact h.none_ j e
/-- What a look-up gives. -/
theorem MapIs.look {w : World} {B : Base} {D : DataW Unit} {f : Secs} (h : MapIs w B D f) (k : Nat) {v : Value} {ps : List MemPlace} (hv : RowR v = some (D.atKey (.int .i64 (k : Int)) .nil, ps)) : (f k = none ∧ v = .slice none 0 0) ∨ ∃ r, f k = some r ∧ RowAt w B v r := by
  cases e : f k with
  | none =>
    rw [Maps.atKey_of_not_has (h.none_ k e)] at hv
    exact .inl ⟨rfl, rowR_none hv⟩
  | some r =>
    obtain ⟨v', g, n, c, h1, h2, h3⟩ := h.rows k r e
    rw [h3] at hv
    have := rowR_at hv
    subst h2
    subst this
    exact .inr ⟨r, rfl, h1⟩
end Go.Proofs.YtonjapphhbhcpaaDoor
namespace Go.Proofs.YtonjapphhbhcpaaDoor
open Go.RowKit
open Go.Maps (Keyed IsMap Tidy)
set_option maxRecDepth 100000

/-- The cells of the writes that wait. -/
def waitC : List (Nat × List Int) → List Value → List Value
  | p :: l, v :: vs => .int .i64 (p.1 : Int) :: v :: waitC l vs
  | _, _ => []
theorem waitC_len : ∀ (l : List (Nat × List Int)) (vs : List Value), vs.length = l.length → (waitC l vs).length = 2 * l.length
  | [], _, _ => rfl
  | _ :: l, [], h => by cases h
  | p :: l, v :: vs, h => by
    rw [waitC, List.length_cons, List.length_cons, waitC_len l vs (by simpa using h), List.length_cons]; omega
theorem waitC_snoc : ∀ (l : List (Nat × List Int)) (vs : List Value), vs.length = l.length → ∀ (p : Nat × List Int) (v : Value), waitC (l ++ [p]) (vs ++ [v]) = waitC l vs ++ [.int .i64 (p.1 : Int), v]
  | [], [], _, _, _ => rfl
  | [], _ :: _, h, _, _ => by cases h
  | _ :: _, [], h, _, _ => by cases h
  | q :: l, u :: vs, h, p, v => by
    rw [List.cons_append, List.cons_append, waitC, waitC, waitC_snoc l vs (by simpa using h) p v]; rfl
theorem waitC_get : ∀ (l : List (Nat × List Int)) (vs : List Value), vs.length = l.length → ∀ (i : Nat) (p : Nat × List Int) (v : Value), l[i]? = some p → vs[i]? = some v → (waitC l vs)[2 * i]? = some (.int .i64 (p.1 : Int)) ∧ (waitC l vs)[2 * i + 1]? = some v
  | [], _, _, i, p, v, h, _ => by simp at h
  | _ :: _, [], h, _, _, _, _, _ => by cases h
  | q :: l, u :: vs, h, 0, p, v, h1, h2 => by
    simp at h1 h2
    subst h1 h2
    exact ⟨rfl, rfl⟩
  | q :: l, u :: vs, h, i + 1, p, v, h1, h2 => by
    have := waitC_get l vs (by simpa using h) i p v (by simpa using h1) (by simpa using h2)
    rw [show 2 * (i + 1) = 2 * i + 1 + 1 by omega, show 2 * i + 1 + 1 + 1 = (2 * i + 1) + 1 + 1 by omega]
    simpa [waitC] using this
def boxC (d : Dk) (sb nb : Nat) (wv : Value) : Array Value := #[.int .i64 (d.many : Int), .map (some sb), .map (some nb), wv, .bool d.armed, .int .i64 (d.acts : Int), .bool d.done, .bool d.down]
/-- The places of a disk. -/
structure Spot where
  sb : Nat
  nb : Nat
  wv : Value
  nS : Nat
  nN : Nat
  DS : DataW Unit
  DN : DataW Unit
  vs : List Value
/-- A disk lies there: its box at g, all else from block B on; N bounds how much was ever done. -/
structure BoxOf (w : World) (B : Base) (g : Nat) (d : Dk) (N : Nat) (s : Spot) : Prop where
  box : w.heap[g]? = some (.cells (boxC d s.sb s.nb s.wv) 78)
  gB : B.lo ≤ g
  sB : B.lo ≤ s.sb
  nB : B.lo ≤ s.nb
  ne : s.sb ≠ s.nb
  mapS : w.ownsMap Tryd.prog 3 RowR s.sb s.nS s.DS
  mapN : w.ownsMap Tryd.prog 3 RowR s.nb s.nN s.DN
  isS : MapIs w B s.DS d.safe
  isN : MapIs w B s.DN d.now
  wlen : s.vs.length = d.wait.length
  wait : w.ownsRow B.lo 95 2 s.wv d.wait.length (waitC d.wait s.vs)
  rows : ∀ (i : Nat) (p : Nat × List Int) (v : Value), d.wait[i]? = some p → s.vs[i]? = some v → RowAt w B v p.2
  numS : s.nS + d.wait.length ≤ N
  numN : s.nN ≤ N
  many : d.many ≤ 9223372036854775807
  acts : d.acts ≤ 9223372036854775807
/-- .. somewhere. -/
def BoxAt (w : World) (B : Base) (g : Nat) (d : Dk) (N : Nat) : Prop := d.ok ∧ ∃ s, BoxOf w B g d N s
/-- A row stays where only other blocks have turned. -/
theorem RowAt.keep {w w' : World} {B : Base} {v : Value} {r : List Int} (h : RowAt w B v r) (hb : ∀ g, v.ownBlock = some g → w'.heap[g]? = w.heap[g]?) : RowAt w' B v r := ⟨h.1.keep hb, h.2⟩
theorem RowAt.then_ {w w' : World} {B : Base} {v : Value} {r : List Int} (h : RowAt w B v r) (hb : Below w.heap.size w w') : RowAt w' B v r := ⟨h.1.then_ hb, h.2⟩
theorem RowAt.base {w : World} {B B' : Base} {v : Value} {r : List Int} (h : RowAt w B v r) (hB : B'.lo ≤ B.lo) (hX : ∀ b, v.ownBlock = some b → B'.off ≠ some b) : RowAt w B' v r := ⟨h.1.base hB, h.2.1, hX⟩
/-- The block of a row holds bytes. -/
theorem RowAt.block {w : World} {B : Base} {v : Value} {r : List Int} (h : RowAt w B v r) : ∀ g, v.ownBlock = some g → ∃ cur, w.heap[g]? = some (.cells cur 5) ∧ B.lo ≤ g ∧ g < w.heap.size := by
  obtain ⟨⟨h1, h2⟩, h3, -⟩ := h
  rcases h2 with ⟨hv, hz⟩ | ⟨g, cap, cur, hv, hb, hg, hrest⟩
  · omega
  · intro g' hg'
    rw [hv] at hg'
    injection hg' with hg'
    subst hg'
    exact ⟨cur, hg, hb, lt_of_block hg⟩
/-- A block that holds no bytes may turn: the rows stay. -/
theorem RowAt.off {w w' : World} {B : Base} {v : Value} {r : List Int} (h : RowAt w B v r) {x : Nat} (hx : ∀ cur, w.heap[x]? ≠ some (.cells cur 5)) (hb : ∀ g, g < w.heap.size → g ≠ x → w'.heap[g]? = w.heap[g]?) : RowAt w' B v r :=
  h.keep fun g hg => by
    obtain ⟨cur, h1, -, h2⟩ := h.block g hg
    exact hb g h2 (fun e => hx cur (by rw [← e]; exact h1))
end Go.Proofs.YtonjapphhbhcpaaDoor
namespace Go.Proofs.YtonjapphhbhcpaaDoor
open Go.RowKit
open Go.Maps (Keyed IsMap Tidy)
set_option maxRecDepth 100000

theorem owns_keep {w w' : World} {b n : Nat} {D : DataW Unit} (h : w.ownsMap Tryd.prog 3 RowR b n D) (e : w'.heap[b]? = w.heap[b]?) : w'.ownsMap Tryd.prog 3 RowR b n D := by
  obtain ⟨es, clock, hb, hr⟩ := h
  exact ⟨es, clock, e.trans hb, hr⟩
theorem row_keepW {w w' : World} {B n : Nat} {v : Value} {xs : List Value} (h : w.ownsRow B 95 2 v n xs) (hb : ∀ g, v.ownBlock = some g → w'.heap[g]? = w.heap[g]?) : w'.ownsRow B 95 2 v n xs := by
  obtain ⟨h1, h2⟩ := h
  refine ⟨h1, ?_⟩
  rcases h2 with h2 | ⟨g, cap, cur, hv, hB, hg, hrest⟩
  · exact .inl h2
  · refine .inr ⟨g, cap, cur, hv, hB, ?_, hrest⟩
    rw [hb g (by rw [hv]; rfl)]
    exact hg
section
variable {w w' : World} {B : Base} {g N : Nat} {d d' : Dk} {s : Spot}
theorem BoxOf.lt (h : BoxOf w B g d N s) : g < w.heap.size := lt_of_block h.box
theorem BoxOf.sbObj (h : BoxOf w B g d N s) : ∃ es c, w.heap[s.sb]? = some (.map es c) := by obtain ⟨es, c, hb, -⟩ := h.mapS; exact ⟨es, c, hb⟩
theorem BoxOf.nbObj (h : BoxOf w B g d N s) : ∃ es c, w.heap[s.nb]? = some (.map es c) := by obtain ⟨es, c, hb, -⟩ := h.mapN; exact ⟨es, c, hb⟩
theorem BoxOf.sbLt (h : BoxOf w B g d N s) : s.sb < w.heap.size := by obtain ⟨es, c, e⟩ := h.sbObj; exact lt_of_block e
theorem BoxOf.nbLt (h : BoxOf w B g d N s) : s.nb < w.heap.size := by obtain ⟨es, c, e⟩ := h.nbObj; exact lt_of_block e
theorem BoxOf.gsb (h : BoxOf w B g d N s) : g ≠ s.sb := by
  rintro rfl; obtain ⟨es, c, e⟩ := h.sbObj; rw [h.box] at e; injection e with e; cases e
theorem BoxOf.gnb (h : BoxOf w B g d N s) : g ≠ s.nb := by
  rintro rfl; obtain ⟨es, c, e⟩ := h.nbObj; rw [h.box] at e; injection e with e; cases e
/-- The writes' block: it holds writes. -/
theorem BoxOf.wvObj (h : BoxOf w B g d N s) : ∀ b, s.wv.ownBlock = some b → ∃ cur, w.heap[b]? = some (.cells cur 95) ∧ B.lo ≤ b ∧ b < w.heap.size := by
  obtain ⟨h1, h2⟩ := h.wait
  rcases h2 with ⟨hv, -⟩ | ⟨g', cap, cur, hv, hB, hg, -⟩
  · intro b hb; rw [hv] at hb; cases hb
  · intro b hb
    rw [hv] at hb
    injection hb with hb
    subst hb
    exact ⟨cur, hg, hB, lt_of_block hg⟩
theorem box_not_write : (78 : Nat) ≠ 95 := by decide
theorem box_not_byte : (78 : Nat) ≠ 5 := by decide
theorem write_not_byte : (95 : Nat) ≠ 5 := by decide
theorem BoxOf.wvNe (h : BoxOf w B g d N s) : ∀ b, s.wv.ownBlock = some b → b ≠ g ∧ b ≠ s.sb ∧ b ≠ s.nb := by
  intro b hb
  obtain ⟨cur, e, -, -⟩ := h.wvObj b hb
  refine ⟨?_, ?_, ?_⟩
  · rintro rfl; rw [h.box] at e; injection e with e; injection e with _ e; exact box_not_write e
  · rintro rfl; obtain ⟨es, c, e2⟩ := h.sbObj; rw [e] at e2; injection e2 with e2; cases e2
  · rintro rfl; obtain ⟨es, c, e2⟩ := h.nbObj; rw [e] at e2; injection e2 with e2; cases e2
/-- A row of bytes lies apart from all of these. -/
theorem BoxOf.rowNe (h : BoxOf w B g d N s) {v : Value} {r : List Int} (hr : RowAt w B v r) : ∀ b, v.ownBlock = some b → b ≠ g ∧ b ≠ s.sb ∧ b ≠ s.nb ∧ ∀ x, s.wv.ownBlock = some x → b ≠ x := by
  intro b hb
  obtain ⟨cur, e, -, -⟩ := hr.block b hb
  refine ⟨?_, ?_, ?_, ?_⟩
  · rintro rfl; rw [h.box] at e; injection e with e; injection e with _ e; exact box_not_byte e
  · rintro rfl; obtain ⟨es, c, e2⟩ := h.sbObj; rw [e] at e2; injection e2 with e2; cases e2
  · rintro rfl; obtain ⟨es, c, e2⟩ := h.nbObj; rw [e] at e2; injection e2 with e2; cases e2
  · rintro x hx rfl; obtain ⟨cur2, e2, -⟩ := h.wvObj b hx; rw [e] at e2; injection e2 with e2; injection e2 with _ e2; exact write_not_byte e2.symm
theorem BoxOf.cells (h : BoxOf w B g d N s) (i : Nat) : w.cell? ⟨g, i, none⟩ = (boxC d s.sb s.nb s.wv)[i]? := row_cells h.box i
theorem BoxOf.frozen (h : BoxOf w B g d N s) (i : Nat) : w.frozen? ⟨g, i, none⟩ = false := by simp [World.frozen?, h.box]
/-- Where nothing of it has turned, it is the same disk. -/
theorem BoxOf.then_ (h : BoxOf w B g d N s) (hb : Below w.heap.size w w') : BoxOf w' B g d N s :=
  { h with
    box := (hb.block g h.lt).trans h.box
    mapS := owns_keep h.mapS (hb.block _ h.sbLt)
    mapN := owns_keep h.mapN (hb.block _ h.nbLt)
    isS := h.isS.keep fun v r hr => hr.then_ hb
    isN := h.isN.keep fun v r hr => hr.then_ hb
    wait := row_keepW h.wait fun b hb' => hb.block b (h.wvObj b hb').choose_spec.2.2
    rows := fun i p v h1 h2 => (h.rows i p v h1 h2).then_ hb }
theorem BoxAt.then_ (h : BoxAt w B g d N) (hb : Below w.heap.size w w') : BoxAt w' B g d N := by obtain ⟨k, s, h⟩ := h; exact ⟨k, s, h.then_ hb⟩
theorem BoxAt.lt (h : BoxAt w B g d N) : B.lo ≤ g ∧ g < w.heap.size := by obtain ⟨-, s, h⟩ := h; exact ⟨h.gB, h.lt⟩
theorem BoxAt.ok (h : BoxAt w B g d N) : d.ok := h.1
theorem BoxAt.more (h : BoxAt w B g d N) {N' : Nat} (hN : N ≤ N') : BoxAt w B g d N' := by
  obtain ⟨k, s, h⟩ := h
  exact ⟨k, s, { h with numS := Nat.le_trans h.numS hN, numN := Nat.le_trans h.numN hN }⟩
/-- The box's own cells turn: the rest stays. -/
theorem BoxOf.turn (h : BoxOf w B g d N s) (hb : ∀ b, b < w.heap.size → b ≠ g → w'.heap[b]? = w.heap[b]?) (hg : w'.heap[g]? = some (.cells (boxC d' s.sb s.nb s.wv) 78))
    (e1 : d'.safe = d.safe) (e2 : d'.now = d.now) (e3 : d'.wait = d.wait) (e4 : d'.many = d.many) (ha : d'.acts ≤ 9223372036854775807) : BoxOf w' B g d' N s where
  box := hg
  gB := h.gB
  sB := h.sB
  nB := h.nB
  ne := h.ne
  mapS := owns_keep h.mapS (hb _ h.sbLt h.gsb.symm)
  mapN := owns_keep h.mapN (hb _ h.nbLt h.gnb.symm)
  isS := by rw [e1]; exact h.isS.keep fun v r hr => hr.keep fun b hb' => hb b (hr.block b hb').choose_spec.2.2 (h.rowNe hr b hb').1
  isN := by rw [e2]; exact h.isN.keep fun v r hr => hr.keep fun b hb' => hb b (hr.block b hb').choose_spec.2.2 (h.rowNe hr b hb').1
  wlen := by rw [e3]; exact h.wlen
  wait := by rw [e3]; exact row_keepW h.wait fun b hb' => hb b (h.wvObj b hb').choose_spec.2.2 (h.wvNe b hb').1
  rows := fun i p v h1 h2 => by
    rw [e3] at h1
    have hr := h.rows i p v h1 h2
    exact hr.keep fun b hb' => hb b (hr.block b hb').choose_spec.2.2 (h.rowNe hr b hb').1
  numS := by rw [e3]; exact h.numS
  numN := h.numN
  many := by rw [e4]; exact h.many
  acts := ha
theorem set_others (w : World) (a : Addr) (u : Value) (b : Nat) (h : b ≠ a.block) : (w.setCell a u).heap[b]? = w.heap[b]? := Below.heap_setCell w a u b h
end
/-- Of what was there only blocks of some make, from B on, may have turned. -/
structure Turns (T : Obj → Prop) (B : Nat) (w w' : World) : Prop where
  below : Below B w w'
  block : ∀ (b : Nat) (o : Obj), w.heap[b]? = some o → ¬ T o → w'.heap[b]? = some o
theorem Turns.refl (T : Obj → Prop) (B : Nat) (w : World) : Turns T B w w := ⟨Below.refl _ _, fun _ _ h _ => h⟩
theorem Turns.trans {T : Obj → Prop} {B : Nat} {a b c : World} (h : Turns T B a b) (k : Turns T B b c) : Turns T B a c :=
  ⟨h.below.trans k.below, fun i o e n => k.block i o (h.block i o e n) n⟩
theorem Turns.of_below {T : Obj → Prop} {B : Nat} {a b : World} (hB : B ≤ a.heap.size) (h : Below a.heap.size a b) : Turns T B a b :=
  ⟨h.mono hB, fun i o e _ => (h.block i (lt_of_block e)).trans e⟩
theorem Turns.size {T : Obj → Prop} {B : Nat} {a b : World} (h : Turns T B a b) : a.heap.size ≤ b.heap.size := h.below.size
theorem Turns.setCell {T : Obj → Prop} {B : Nat} {a b : World} (h : Turns T B a b) {p : Addr} {o : Obj} (hp : b.heap[p.block]? = some o) (ht : T o) (hB : B ≤ p.block) (u : Value) : Turns T B a (b.setCell p u) :=
  ⟨h.below.setCell hB u, fun i o' e n => by
    have h1 := h.block i o' e n
    refine (Below.heap_setCell b p u i ?_).trans h1
    rintro rfl
    rw [hp] at h1
    injection h1 with h1
    subst h1
    exact n ht⟩
theorem Turns.grown {T : Obj → Prop} {B : Nat} {a b c : World} (h : Turns T B a b) {row : Option Nat} (hg : b.grownBy c row) (hr : ∀ k, row = some k → B ≤ k ∧ ∃ o, b.heap[k]? = some o ∧ T o) (hB : B ≤ b.heap.size) : Turns T B a c :=
  ⟨h.below.grown hg hB fun k e => (hr k e).1, fun i o e n => by
    have h1 := h.block i o e n
    refine (hg.block i (lt_of_block h1) fun e2 => ?_).trans h1
    obtain ⟨-, o2, h2, h3⟩ := hr i e2.symm
    rw [h1] at h2
    injection h2 with h2
    subst h2
    exact n h3⟩
theorem Turns.mono {T : Obj → Prop} {B B' : Nat} {a b : World} (h : Turns T B a b) (hB : B' ≤ B) : Turns T B' a b := ⟨h.below.mono hB, h.block⟩
/-- What a disk of package block is made of. -/
def TB : Obj → Prop
  | .cells _ t _ => t = 78 ∨ t = 95
  | _ => True
theorem RowAt.turns {T : Obj → Prop} {w w' : World} {B : Base} {B' : Nat} {v : Value} {r : List Int} (h : RowAt w B v r) (ht : Turns T B' w w') (hn : ∀ cur, ¬ T (.cells cur 5)) : RowAt w' B v r :=
  h.keep fun b hb => by
    obtain ⟨cur, h1, -, -⟩ := h.block b hb
    exact (ht.block b _ h1 (hn cur)).trans h1.symm
theorem TB_byte (cur : Array Value) (fr : Nat × Nat) : ¬ TB (.cells cur 5 fr) := by
  show ¬ ((5 : Nat) = 78 ∨ (5 : Nat) = 95)
  decide
theorem TB_box (cur : Array Value) (fr : Nat × Nat) : TB (.cells cur 78 fr) := .inl rfl
theorem TB_write (cur : Array Value) (fr : Nat × Nat) : TB (.cells cur 95 fr) := .inr rfl
end Go.Proofs.YtonjapphhbhcpaaDoor
namespace Go.Proofs.YtonjapphhbhcpaaDoor
open Go.RowKit
open Go.Maps (Keyed IsMap Tidy)
set_option maxRecDepth 100000

theorem row_empty (w : World) (B : Nat) : w.ownsRow B 95 2 (.slice none 0 0) 0 [] := World.ownsRow_nil _ _ _ _
theorem new_any (n : Nat) (hn : n ≤ 9223372036854775807) (w : World) : Calls Tryd.prog 19 #[.int .i64 (n : Int)] w fun e w' => ∃ h g, e = .returned (.pointer (some ⟨h, 0, none⟩)) ∧ w'.heap[h]? = some (.cells #[.pointer (some ⟨g, 0, none⟩)] 80) ∧ w.heap.size ≤ h ∧ BoxAt w' w.heap.size g (Dk.new n) 0 ∧ Below w.heap.size w w' := by
  have hmm := @run_makeMap Tryd.prog
  have hm : ¬ ((n : Int) < 0) := by omega
  go_enter Tryd.func19, Tryd.ntmps19
  go_wp2
  go_ret
  have e1 : w.heap.size + 1 = (w.alloc (.map #[] 0)).heap.size := by simp
  have e2 : w.heap.size + 1 + 1 = ((w.alloc (.map #[] 0)).alloc (.map #[] 0)).heap.size := by simp
  refine ⟨_, rfl, w.heap.size + 1 + 1, heap_alloc_at _ _ _ (by simp), by omega, ⟨Dk.new_ok n, ⟨w.heap.size, w.heap.size + 1, .slice none 0 0, 0, 0, .map [], .map [], []⟩, ?_⟩, (below3 _ _ _ _).alloc (by simp; omega) _⟩
  exact {
    box := by rw [Below.heap_alloc _ _ _ (by simp), e2]; exact heap_alloc_new _ _
    gB := by show w.heap.size ≤ w.heap.size + 1 + 1; omega
    sB := Nat.le_refl _
    nB := by show w.heap.size ≤ w.heap.size + 1; omega
    ne := by show w.heap.size ≠ w.heap.size + 1; omega
    mapS := (((World.ownsMap_made w _ _ _).alloc _).alloc _).alloc _
    mapN := by
      have h := World.ownsMap_made (w.alloc (.map #[] 0)) Tryd.prog 3 RowR
      rw [← e1] at h
      exact (h.alloc _).alloc _
    isS := MapIs.start _ _
    isN := MapIs.start _ _
    wlen := rfl
    wait := World.ownsRow_nil _ _ _ _
    rows := fun i p v h _ => (by simp [Dk.new] at h)
    numS := Nat.le_refl _
    numN := Nat.le_refl _
    many := hn
    acts := Nat.zero_le _ }
theorem disk_any (h g : Nat) (w : World) (hh : w.cell? ⟨h, 0, none⟩ = some (.pointer (some ⟨g, 0, none⟩))) :
    Calls Tryd.prog 25 #[.pointer (some ⟨h, 0, none⟩)] w fun e w' => e = .returned (.pointer (some ⟨w.heap.size, 0, none⟩)) ∧ w' = w.alloc (.cells #[.pointer (some ⟨g, 0, none⟩)] 93) := by
  go_enter Tryd.func25, Tryd.ntmps25
  go_wp2
  go_ret
  exact ⟨rfl, rfl⟩
theorem boxC_get (d : Dk) (sb nb : Nat) (wv : Value) : (boxC d sb nb wv)[0]? = some (.int .i64 (d.many : Int)) ∧ (boxC d sb nb wv)[1]? = some (.map (some sb)) ∧ (boxC d sb nb wv)[2]? = some (.map (some nb)) ∧ (boxC d sb nb wv)[3]? = some wv ∧ (boxC d sb nb wv)[4]? = some (.bool d.armed) ∧ (boxC d sb nb wv)[5]? = some (.int .i64 (d.acts : Int)) ∧ (boxC d sb nb wv)[6]? = some (.bool d.done) ∧ (boxC d sb nb wv)[7]? = some (.bool d.down) := ⟨rfl, rfl, rfl, rfl, rfl, rfl, rfl, rfl⟩
theorem sectors_any (h g : Nat) (w : World) (B : Base) (N : Nat) (d : Dk) (hh : w.cell? ⟨h, 0, none⟩ = some (.pointer (some ⟨g, 0, none⟩))) (hb : BoxAt w B g d N) :
    Calls Tryd.prog 70 #[.pointer (some ⟨h, 0, none⟩)] w fun e w' => e = .returned (.int .i64 (d.many : Int)) ∧ w = w' := by
  obtain ⟨hok, s, hb⟩ := hb
  have c0 := (hb.cells 0).trans (boxC_get d s.sb s.nb s.wv).1
  clear hb
  go_enter Tryd.func70, Tryd.ntmps70
  go_wp2
  go_ret
  exact ⟨rfl, rfl⟩
theorem results_void {P : Program} {fn : Func} (h : fn.results = #[]) (tmps : Array Value) (w : World) : (results fn tmps).run P w = .ok (.tuple #[]) w := by simp [results, h]
theorem set_heap {w : World} {g i : Nat} {cs : Array Value} {t : TypeId} (h : w.heap[g]? = some (.cells cs t)) (u : Value) : (w.setCell ⟨g, i, none⟩ u).heap[g]? = some (.cells (cs.setIfInBounds i u) t) := by
  rw [setCell_eq_setRow w g i cs t (0, 0) u h]
  exact setRow_heap _ _ _ _ _ _ h
theorem set_off (w : World) {g i b : Nat} (u : Value) (h : b ≠ g) : (w.setCell ⟨g, i, none⟩ u).heap[b]? = w.heap[b]? := Below.heap_setCell w ⟨g, i, none⟩ u b h
/-- Three cells of the box turned. -/
theorem arm_end {w : World} {B : Base} {g N : Nat} {d : Dk} {s : Spot} (hok : d.ok) (h : BoxOf w B g d N s) (n : Int) (b : Bool) (hn : -9223372036854775808 ≤ n ∧ n ≤ 9223372036854775807) {m : Int} (hm : m = (n.toNat : Nat)) :
    BoxAt ((((w.setCell ⟨g, 4, none⟩ (.bool true)).setCell ⟨g, 5, none⟩ (.int .i64 m)).setCell ⟨g, 6, none⟩ (.bool b)).drew) B g (d.arm n b) N ∧ Turns TB B.lo w ((((w.setCell ⟨g, 4, none⟩ (.bool true)).setCell ⟨g, 5, none⟩ (.int .i64 m)).setCell ⟨g, 6, none⟩ (.bool b)).drew) := by
  subst hm
  have h1 := set_heap (i := 4) h.box (.bool true)
  have h2 := set_heap (i := 5) h1 (.int .i64 ((n.toNat : Nat) : Int))
  have h3 := set_heap (i := 6) h2 (.bool b)
  refine ⟨⟨Dk.arm_ok hok n b, s, h.turn (d' := d.arm n b) (fun x hx hne => ?_) h3 rfl rfl rfl rfl (by show n.toNat ≤ _; omega)⟩, ?_⟩
  · show ((((w.setCell ⟨g, 4, none⟩ (.bool true)).setCell ⟨g, 5, none⟩ _).setCell ⟨g, 6, none⟩ (.bool b))).heap[x]? = _
    rw [set_off _ _ hne, set_off _ _ hne, set_off _ _ hne]
  · have t3 := (((Turns.refl TB B.lo w).setCell (p := ⟨g, 4, none⟩) h.box (TB_box _ _) h.gB (.bool true)).setCell (p := ⟨g, 5, none⟩) h1 (TB_box _ _) h.gB (.int .i64 ((n.toNat : Nat) : Int))).setCell (p := ⟨g, 6, none⟩) h2 (TB_box _ _) h.gB (.bool b)
    exact ⟨t3.below.drew, t3.block⟩
set_option maxHeartbeats 4000000 in
theorem arm_any (h g : Nat) (n : Int) (b : Bool) (w : World) (B : Base) (N : Nat) (d : Dk) (hn : okInt n) (hh : w.cell? ⟨h, 0, none⟩ = some (.pointer (some ⟨g, 0, none⟩))) (hb : BoxAt w B g d N) :
    Calls Tryd.prog 26 #[.pointer (some ⟨h, 0, none⟩), .int .i64 n, .bool b] w fun e w' => e = .returned (.tuple #[]) ∧ BoxAt w' B g (d.arm n b) N ∧ Turns TB B.lo w w' := by
  obtain ⟨hok, s, hb⟩ := hb
  obtain ⟨q0, q1, q2, q3, q4, q5, q6, q7⟩ := boxC_get d s.sb s.nb s.wv
  have c4 := (hb.cells 4).trans q4
  have c5 := (hb.cells 5).trans q5
  have c6 := (hb.cells 6).trans q6
  have f4 := hb.frozen 4
  have f5 := hb.frozen 5
  have f6 := hb.frozen 6
  clear q0 q1 q2 q3 q4 q5 q6 q7
  unfold okInt at hn
  have HB := Lib.hid hb
  clear hb
  have hne : h ≠ g := by
    rintro rfl
    have e := (HB.out.cells 0).trans (boxC_get d s.sb s.nb s.wv).1
    rw [e] at hh
    cases hh
  have hne' : g ≠ h := fun e => hne e.symm
  by_cases h0 : n < 0
  · go_enter Tryd.func26, Tryd.ntmps26
    go_wp2
    go_region
    exact ⟨rfl, .tuple #[], results_void rfl _ _, rfl, (arm_end hok HB.out n b hn (by omega) ).1, (arm_end hok HB.out n b hn (by omega)).2⟩
  · go_enter Tryd.func26, Tryd.ntmps26
    go_wp2
    go_region
    exact ⟨rfl, .tuple #[], results_void rfl _ _, rfl, (arm_end hok HB.out n b hn (by omega) ).1, (arm_end hok HB.out n b hn (by omega)).2⟩
end Go.Proofs.YtonjapphhbhcpaaDoor
