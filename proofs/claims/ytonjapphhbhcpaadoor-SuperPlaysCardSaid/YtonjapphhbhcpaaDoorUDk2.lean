/- Superblocks on a disk whose power goes, and that turn: plain words. No statement is proved here. -/
import Derived.Test.YtonjapphhbhcpaaDoorUDk
import Derived.Test.YtonjapphhbhcpaaDoorGPp
namespace Go.Proofs.YtonjapphhbhcpaaDoor
open Go.RowKit
set_option maxRecDepth 100000

/-- A page holds that superblock, or nothing but zeros. -/
def PgH (l : List Int) (p : Int) : Option Sup → Prop
  | none => l = zB 4096
  | some s => s.ok = true ∧ s.ver % 2 = p ∧ l = s.make
theorem PgH.no {l : List Int} {p : Int} (h : PgH l p none) : sopE l p ≠ 0 := by
  have h : l = zB 4096 := h
  rw [h]
  exact sop_zeros p
theorem PgH.yes {l : List Int} {p : Int} {s : Sup} (h : PgH l p (some s)) : sopE l p = 0 ∧ sopS l p = s := by
  obtain ⟨h1, h2, rfl⟩ := h
  have h3 := sop_made h1 p
  rw [h2] at h3
  exact ⟨by rw [h3.1, if_neg (by omega), if_pos rfl], h3.2⟩
def chO : Option Sup → Option Sup → Option Sup
  | none, none => none
  | none, some t => some t
  | some s, none => some s
  | some s, some t => if s.ver < t.ver then some t else some s
theorem ch_pages {A B : List Int} {oa ob : Option Sup} (hA : PgH A 0 oa) (hB : PgH B 1 ob) {s : Sup} (h : chO oa ob = some s) : chE A B = 0 ∧ chS A B = s := by
  cases oa with
  | none =>
    cases ob with
    | none => cases h
    | some t =>
      have h1 := hA.no
      obtain ⟨h2, h3⟩ := hB.yes
      injection h with h
      subst h
      exact ⟨by unfold chE; rw [if_neg (fun k => k.2 h2)], by unfold chS; rw [if_pos h1, if_neg (fun k => k h2), h3]⟩
  | some u =>
    obtain ⟨h1, h1'⟩ := hA.yes
    cases ob with
    | none =>
      have h2 := hB.no
      injection h with h
      subst h
      exact ⟨by unfold chE; rw [if_neg (fun k => k.1 h1)], by unfold chS; rw [if_neg (fun k => k h1), if_neg (fun k => h2 k.1), h1']⟩
    | some t =>
      obtain ⟨h2, h2'⟩ := hB.yes
      refine ⟨by unfold chE; rw [if_neg (fun k => k.1 h1)], ?_⟩
      unfold chS
      rw [if_neg (fun k => k h1), h1', h2']
      have h : (if u.ver < t.ver then some t else some u) = some s := h
      split at h
      · rename_i hlt
        injection h with h
        rw [if_pos ⟨h2, hlt⟩, h]
      · rename_i hlt
        injection h with h
        rw [if_neg (fun k => hlt k.2), h]
/-- What is read of such pages. -/
theorem srd_pages {d : Dk} {oa ob : Option Sup} (hd : d.down = false) (hp : 16 ≤ d.pages) (hA : PgH (pgB d 0) 0 oa) (hB : PgH (pgB d 1) 1 ob) {s : Sup} (h : chO oa ob = some s) (hs : s.pag = d.pages) : d.srE = 0 ∧ d.srS = s := by
  obtain ⟨h1, h2⟩ := ch_pages hA hB h
  have e : d.srE = 0 := by
    unfold Dk.srE
    rw [if_neg (by omega), hd, if_neg (by decide), if_pos ⟨h1, by rw [h2]; exact hs⟩]
  exact ⟨e, by unfold Dk.srS; rw [if_pos e, h2]⟩
theorem rowK_zB {i : Nat} (h : i < 8) : rowK (zB 4096) i = zB 512 := by
  unfold rowK zB
  rw [List.drop_replicate, List.take_replicate]
  congr 1
  omega
theorem pgB_zero {d : Dk} {m : Nat} (h : ∀ i, i < 8 → d.look (m * 8 + i) = zB 512) : pgB d m = zB 4096 := pgB_of (zB_len _) fun i hi => by rw [h i hi, rowK_zB hi]
theorem Dk.allB.swr {d : Dk} (h : d.allB) (s : Sup) : (d.swr s).2.allB := by
  unfold Dk.swr
  split
  · split
    · exact (h.pwr _ _ s.body_byte).sync
    · exact h.pwr _ _ s.body_byte
  · exact h
theorem Dk.swr_many (d : Dk) (s : Sup) : (d.swr s).2.many = d.many := by
  unfold Dk.swr
  split
  · split
    · exact (Dk.sync_many _).trans (d.pwr_many _ _ _)
    · exact d.pwr_many _ _ _
  · rfl
/-- A superblock written on a disk that has power. -/
theorem swr_page {d : Dk} {s : Sup} (h : d.live) (hs : s.ok = true) (hd : s.pag = d.pages) {p q : Nat} (hp : s.ver % 2 = (p : Int)) (hp2 : p < 2) (hq : q < 2) (hpq : q ≠ p) :
    (d.swr s).1 = 0 ∧ (d.swr s).2.live ∧ (d.swr s).2.many = d.many ∧ (d.swr s).2.wait = [] ∧ pgB (d.swr s).2 p = s.make ∧ pgB (d.swr s).2 q = pgB d q := by
  obtain ⟨h1, h2, h3, h4, h5⟩ := swr_live h hs hd hp hp2
  refine ⟨h1, h2, h3, h4, pgB_of (Sup.make_len hs) fun i hi => ?_, pgB_congr fun i hi => ?_⟩
  · rw [h5, if_pos (by omega), Nat.add_sub_cancel_left]
  · rw [h5, if_neg (by omega)]
/-- Wherever the power goes. -/
theorem power_pure {s t : Sup} (hs : s.ok = true) (ht : t.ok = true) (hv : t.ver = s.ver + 1) (hg : t.pag = s.pag) (n : Nat) (hn : (n : Int) = 8 * s.pag) (acts : Int) (done : Bool) (keep : List Bool) :
    ((Dk.new n).swr s).1 = 0 ∧ (((((Dk.new n).swr s).2.arm acts done).swr t).2.crash keep).srE = 0 ∧
      (((((Dk.new n).swr s).2.arm acts done).swr t).1 = 0 → (((((Dk.new n).swr s).2.arm acts done).swr t).2.crash keep).srS = t) ∧
      ((((((Dk.new n).swr s).2.arm acts done).swr t).2.crash keep).srS = s ∨ (((((Dk.new n).swr s).2.arm acts done).swr t).2.crash keep).srS = t) := by
  have k1 := Sup.ok_yes hs
  have k2 := Sup.ok_yes ht
  obtain ⟨p, hp2, hp⟩ := Sup.page hs
  obtain ⟨m, hm2, hm⟩ := Sup.page ht
  have hpm : p ≠ m := by omega
  have hpg0 : s.pag = (Dk.new n).pages := by show s.pag = (n : Int) / 8; omega
  have hl0 : (Dk.new n).live := ⟨Dk.new_ok n, rfl, rfl⟩
  obtain ⟨w1, w2, w3, w4, w5⟩ := swr_live hl0 hs hpg0 hp hp2
  generalize (Dk.new n).swr s = A at *
  obtain ⟨ae, A⟩ := A
  dsimp only at *
  have hA : ∀ k, A.now k = A.safe k := fun k => by rw [w2.ok.now k, w4]; rfl
  have hpgA : t.pag = (A.arm acts done).pages := by show t.pag = (A.many : Int) / 8; rw [w3]; show t.pag = (n : Int) / 8; omega
  obtain ⟨r1, r2⟩ := swr_run (d := A.arm acts done) ht hpgA (show A.down = false from w2.up) (show A.wait = [] from w4) hm hm2
  generalize (A.arm acts done).swr t = C at *
  obtain ⟨ce, C⟩ := C
  dsimp only at *
  have hmany : (C.crash keep).many = n := by show C.many = n; rw [r1]; show A.many = n; rw [w3]; rfl
  have hpgs : (C.crash keep).pages = s.pag := by unfold Dk.pages; rw [hmany]; omega
  -- what is there behind the loss of power
  have hnow : ∀ k, (C.crash keep).now k = A.safe k ∨ ∃ i, i < 8 ∧ k = m * 8 + i ∧ (C.crash keep).now k = some (rowK t.make i) := fun k => by
    show over C.safe (stay C.wait keep) k = _ ∨ ∃ i, i < 8 ∧ k = m * 8 + i ∧ over C.safe (stay C.wait keep) k = _
    rcases r2 with ⟨_, r3, j, hj, r4⟩ | ⟨r3, r4⟩
    · rw [r3, r4]
      exact over_page (stay (wlS m t.make 0 j) keep) A.safe (fun q hq => wlS_in (by omega) q (stay_mem hq)) k
    · rw [r3, r4, stay_nil, over_nil]
      exact over_page (wlS m t.make 0 8) A.safe (wlS_in (by omega)) k
  have hall : ce = 0 → ∀ i, i < 8 → (C.crash keep).now (m * 8 + i) = some (rowK t.make i) := fun hce i hi => by
    rcases r2 with ⟨h, _⟩ | ⟨r3, r4⟩
    · exact absurd hce h
    · show over C.safe (stay C.wait keep) (m * 8 + i) = _
      rw [r3, r4, stay_nil, over_nil]
      exact over_all m t.make 8 0 _ i (by omega) (by omega) (by omega)
  have hlook : ∀ k, (C.crash keep).look k = A.look k ∨ ∃ i, i < 8 ∧ k = m * 8 + i ∧ (C.crash keep).look k = rowK t.make i := fun k => by
    unfold Dk.look
    rcases hnow k with h | ⟨i, hi, h1, h2⟩
    · left; rw [h, hA]
    · right; exact ⟨i, hi, h1, by rw [h2]; rfl⟩
  have hpgp : PgH (pgB (C.crash keep) p) (p : Int) (some s) := ⟨hs, hp, pgB_of (Sup.make_len hs) fun i hi => by
    rcases hlook (p * 8 + i) with h | ⟨j, hj, h1, _⟩
    · rw [h, w5, if_pos (by omega), Nat.add_sub_cancel_left]
    · omega⟩
  have hz : ∀ i, i < 8 → A.look (m * 8 + i) = zB 512 := fun i hi => by rw [w5, if_neg (by omega)]; exact zero_look n _
  have hrest : ∀ i, 1 ≤ i → i < 8 → (C.crash keep).look (m * 8 + i) = zB 512 := fun i h1 hi => by
    rcases hlook (m * 8 + i) with h | ⟨j, hj, h2, h3⟩
    · rw [h, hz i hi]
    · rw [h3, show j = i by omega, rowK_low ht h1 hi]
  have hpgm : PgH (pgB (C.crash keep) m) (m : Int) (some t) ∨ (ce ≠ 0 ∧ PgH (pgB (C.crash keep) m) (m : Int) none) := by
    have key : (C.crash keep).look (m * 8 + 0) = rowK t.make 0 → pgB (C.crash keep) m = t.make := fun h => pgB_of (Sup.make_len ht) fun i hi => by
      rcases Nat.eq_zero_or_pos i with h0 | h0
      · subst h0; exact h
      · rw [hrest i h0 hi, rowK_low ht h0 hi]
    by_cases hce : ce = 0
    · left
      refine ⟨ht, hm, key ?_⟩
      unfold Dk.look
      rw [hall hce 0 (by omega)]
      rfl
    · rcases hlook (m * 8 + 0) with h | ⟨j, hj, h2, h3⟩
      · right
        refine ⟨hce, pgB_zero fun i hi => ?_⟩
        rcases Nat.eq_zero_or_pos i with h0 | h0
        · subst h0; rw [h]; exact hz 0 (by omega)
        · exact hrest i h0 hi
      · left
        refine ⟨ht, hm, key ?_⟩
        rw [h3, show j = 0 by omega]
  have hdn : (C.crash keep).down = false := rfl
  have h16 : 16 ≤ (C.crash keep).pages := by rw [hpgs]; omega
  rcases (show p = 0 ∧ m = 1 ∨ p = 1 ∧ m = 0 by omega) with ⟨rfl, rfl⟩ | ⟨rfl, rfl⟩
  · rcases hpgm with hm1 | ⟨hce, hm1⟩
    · have h := srd_pages hdn h16 hpgp hm1 (s := t) (by show (if s.ver < t.ver then some t else some s) = some t; rw [if_pos (by omega)]) (by rw [hpgs]; exact hg)
      exact ⟨w1, h.1, fun _ => h.2, .inr h.2⟩
    · have h := srd_pages hdn h16 hpgp hm1 (s := s) rfl hpgs.symm
      exact ⟨w1, h.1, fun e => absurd e hce, .inl h.2⟩
  · rcases hpgm with hm1 | ⟨hce, hm1⟩
    · have h := srd_pages hdn h16 hm1 hpgp (s := t) (by show (if t.ver < s.ver then some s else some t) = some t; rw [if_neg (by omega)]) (by rw [hpgs]; exact hg)
      exact ⟨w1, h.1, fun _ => h.2, .inr h.2⟩
    · have h := srd_pages hdn h16 hm1 hpgp (s := s) rfl hpgs.symm
      exact ⟨w1, h.1, fun e => absurd e hce, .inl h.2⟩
end Go.Proofs.YtonjapphhbhcpaaDoor
