/- Superblocks on a disk, as plain words: no program here. A disk whose rows are all of bytes, as plain words: no program here. Superblocks on a disk whose power goes, and that turn: plain words. No statement is proved here. -/
import Derived.Test.YtophhnolnlbecaaDoorQ9
import Derived.Test.YtophhnolnlbecaaDoorQ17
namespace Go.Proofs.YtophhnolnlbecaaDoor
open Go.RowKit
set_option maxRecDepth 100000

/-- A superblock written: the error, the disk. -/
def Dk.swr (d : Dk) (s : Sup) : Int × Dk :=
  if s.ok = true ∧ s.pag = d.pages then
    if (d.pwr (s.ver % 2) 1 s.body).1 = 0 then ((d.pwr (s.ver % 2) 1 s.body).2.syncE, (d.pwr (s.ver % 2) 1 s.body).2.sync) else d.pwr (s.ver % 2) 1 s.body
  else (1, d)
/-- The one that holds: the error, the superblock. -/
def Dk.srE (d : Dk) : Int := if d.pages < 16 then 140 else if d.down then 5 else if chE (pgB d 0) (pgB d 1) = 0 ∧ (chS (pgB d 0) (pgB d 1)).pag = d.pages then 0 else 140
def Dk.srS (d : Dk) : Sup := if d.srE = 0 then chS (pgB d 0) (pgB d 1) else Sup.zero
theorem Sup.page {s : Sup} (h : s.ok = true) : ∃ p : Nat, p < 2 ∧ s.ver % 2 = (p : Int) := ⟨(s.ver % 2).toNat, by omega, by omega⟩
theorem pwr_is {d : Dk} {s : Sup} {p : Nat} (h : s.ok = true) (hp : s.ver % 2 = (p : Int)) (hd : s.pag = d.pages) (hp2 : p < 2) : d.pwr (s.ver % 2) 1 s.body = wrs (p : Int) s.make 8 0 d := by
  have h1 := Sup.ok_yes h
  have hg : makeE (s.ver % 2) 1 s.body.length = 0 := by unfold makeE; rw [Sup.okG]; rfl
  unfold Dk.pwr
  rw [if_pos hg, if_pos (by omega), Sup.make_ok h, hp]
/-- Written on a disk that has power. -/
theorem swr_live {d : Dk} {s : Sup} (h : d.live) (hs : s.ok = true) (hd : s.pag = d.pages) {p : Nat} (hp : s.ver % 2 = (p : Int)) (hp2 : p < 2) :
    (d.swr s).1 = 0 ∧ (d.swr s).2.live ∧ (d.swr s).2.many = d.many ∧ (d.swr s).2.wait = [] ∧ ∀ j, (d.swr s).2.look j = if p * 8 ≤ j ∧ j < p * 8 + 8 then rowK s.make (j - p * 8) else d.look j := by
  have h1 := Sup.ok_yes hs
  have hm : p * 8 + 0 + 8 ≤ d.many := by unfold Dk.pages at hd; omega
  obtain ⟨p1, p2, p3, p4⟩ := wrs_live (m := p) (Sup.make_len hs) 8 0 d h hm (by omega)
  have e : d.swr s = ((wrs (p : Int) s.make 8 0 d).2.syncE, (wrs (p : Int) s.make 8 0 d).2.sync) := by
    unfold Dk.swr
    rw [if_pos ⟨hs, hd⟩, pwr_is hs hp hd hp2, if_pos p1]
  have e2 : (wrs (p : Int) s.make 8 0 d).2.sync = (wrs (p : Int) s.make 8 0 d).2.settle := by unfold Dk.sync; rw [p2.up, p2.does, p2.acted]; rfl
  rw [e]
  dsimp only
  rw [e2]
  exact ⟨by unfold Dk.syncE Dk.errA; rw [p2.up, p2.goes]; rfl, ⟨Dk.settle_ok p2.ok, p2.armed, p2.up⟩, p3, rfl, fun j => p4 j⟩
/-- Writes of a page's sectors, the first j of them. -/
def wlS (m : Nat) (b : List Int) (i j : Nat) : List (Nat × List Int) := (List.range j).map fun t => (m * 8 + i + t, rowK b (i + t))
theorem wlS_zero (m : Nat) (b : List Int) (i : Nat) : wlS m b i 0 = [] := rfl
theorem wlS_cons (m : Nat) (b : List Int) (i j : Nat) : wlS m b i (j + 1) = (m * 8 + i, rowK b i) :: wlS m b (i + 1) j := by
  unfold wlS
  rw [List.range_succ_eq_map, List.map_cons, List.map_map]
  congr 1
  apply List.map_congr_left
  intro t _
  show (m * 8 + i + (t + 1), rowK b (i + (t + 1))) = (m * 8 + (i + 1) + t, rowK b (i + 1 + t))
  rw [show m * 8 + i + (t + 1) = m * 8 + (i + 1) + t by omega, show i + (t + 1) = i + 1 + t by omega]
theorem wlS_mem {m : Nat} {b : List Int} {i j : Nat} {q : Nat × List Int} (h : q ∈ wlS m b i j) : ∃ t, t < j ∧ q = (m * 8 + i + t, rowK b (i + t)) := by
  obtain ⟨t, ht, rfl⟩ := List.mem_map.1 h
  exact ⟨t, List.mem_range.1 ht, rfl⟩
/-- The sectors of a page written on a disk that may go down. -/
theorem wrs_run {m : Nat} {b : List Int} (hb : b.length = 4096) : ∀ (n i : Nat) (d : Dk), m * 8 + i + n ≤ d.many → i + n ≤ 8 →
    ∃ j, j ≤ n ∧ (wrs (m : Int) b n i d).2.wait = d.wait ++ wlS m b i j ∧ (wrs (m : Int) b n i d).2.safe = d.safe ∧ (wrs (m : Int) b n i d).2.many = d.many ∧ ((wrs (m : Int) b n i d).1 = 0 → j = n ∧ (wrs (m : Int) b n i d).2.down = d.down)
  | 0, i, d, _, _ => ⟨0, Nat.le_refl _, by rw [wlS_zero, List.append_nil]; rfl, rfl, rfl, fun _ => ⟨rfl, rfl⟩⟩
  | n + 1, i, d, hm, hi => by
    have hk : m * 8 + i < d.many := by omega
    have hl : (rowK b i).length = 512 := rowK_len hb (by omega)
    have e : (m : Int) * 8 + i = ((m * 8 + i : Nat) : Int) := by omega
    have hbad : d.badW ((m * 8 + i : Nat) : Int) (rowK b i).length = false := by unfold Dk.badW; rw [hl, decide_eq_true (show 0 ≤ ((m * 8 + i : Nat) : Int) ∧ ((m * 8 + i : Nat) : Int) < d.many by omega)]; rfl
    by_cases hdn : d.down = true
    · have hw : d.writeE ((m : Int) * 8 + i) (rowK b i) = 5 := by unfold Dk.writeE; rw [if_pos hdn]
      have hw2 : d.write ((m : Int) * 8 + i) (rowK b i) = d := by unfold Dk.write; rw [if_pos hdn]
      rw [wrs_bad (by rw [hw]; decide), hw, hw2]
      exact ⟨0, Nat.zero_le _, by rw [wlS_zero, List.append_nil], rfl, rfl, fun h => absurd h (show (5 : Int) ≠ 0 by decide)⟩
    · have hdf : d.down = false := by simpa using hdn
      cases hg : d.goes with
      | true =>
        have hw : d.writeE ((m : Int) * 8 + i) (rowK b i) = 5 := by unfold Dk.writeE Dk.errA; rw [e, hdf, hbad, hg]; rfl
        have ha : d.acted = { d with down := true } := by unfold Dk.acted; rw [hg]; rfl
        rw [wrs_bad (by rw [hw]; decide), hw]
        cases hdo : d.done with
        | true =>
          have hw2 : d.write ((m : Int) * 8 + i) (rowK b i) = d.acted.put (m * 8 + i) (rowK b i) := by unfold Dk.write Dk.does; rw [e, hdf, hbad, hg, hdo, Int.toNat_natCast]; rfl
          rw [hw2, ha]
          exact ⟨1, by omega, by rw [wlS_cons, wlS_zero]; rfl, rfl, rfl, fun h => absurd h (show (5 : Int) ≠ 0 by decide)⟩
        | false =>
          have hw2 : d.write ((m : Int) * 8 + i) (rowK b i) = d.acted := by unfold Dk.write Dk.does; rw [e, hdf, hbad, hg, hdo]; rfl
          rw [hw2, ha]
          exact ⟨0, Nat.zero_le _, by rw [wlS_zero, List.append_nil], rfl, rfl, fun h => absurd h (show (5 : Int) ≠ 0 by decide)⟩
      | false =>
        have hw : d.writeE ((m : Int) * 8 + i) (rowK b i) = 0 := by unfold Dk.writeE Dk.errA; rw [e, hdf, hbad, hg]; rfl
        have hw2 : d.write ((m : Int) * 8 + i) (rowK b i) = d.acted.put (m * 8 + i) (rowK b i) := by unfold Dk.write Dk.does; rw [e, hdf, hbad, hg, Int.toNat_natCast]; rfl
        rw [wrs_good hw, hw2]
        have hma : (d.acted.put (m * 8 + i) (rowK b i)).many = d.many := d.acted_many
        obtain ⟨j, q1, q2, q3, q4, q5⟩ := wrs_run (m := m) hb n (i + 1) (d.acted.put (m * 8 + i) (rowK b i)) (by rw [hma]; omega) (by omega)
        have hwa : d.acted.wait = d.wait := by unfold Dk.acted; split; rfl; split <;> rfl
        have hsa : d.acted.safe = d.safe := by unfold Dk.acted; split; rfl; split <;> rfl
        have hda : d.acted.down = d.down := by unfold Dk.acted; rw [hg, if_neg (by decide)]; split <;> rfl
        refine ⟨j + 1, by omega, ?_, q3.trans hsa, q4.trans hma, fun h => ⟨by rw [(q5 h).1], (q5 h).2.trans hda⟩⟩
        rw [q2, wlS_cons]
        show (d.acted.wait ++ [(m * 8 + i, rowK b i)]) ++ wlS m b (i + 1) j = _
        rw [hwa, List.append_assoc]
        rfl
/-- What a superblock's write leaves, wherever the power goes. -/
theorem swr_run {d : Dk} {s : Sup} (hs : s.ok = true) (hd : s.pag = d.pages) (hdn : d.down = false) (hw : d.wait = []) {p : Nat} (hp : s.ver % 2 = (p : Int)) (hp2 : p < 2) :
    (d.swr s).2.many = d.many ∧ (((d.swr s).1 ≠ 0 ∧ (d.swr s).2.safe = d.safe ∧ ∃ j, j ≤ 8 ∧ (d.swr s).2.wait = wlS p s.make 0 j) ∨ ((d.swr s).2.safe = over d.safe (wlS p s.make 0 8) ∧ (d.swr s).2.wait = [])) := by
  have h1 := Sup.ok_yes hs
  have hm : p * 8 + 0 + 8 ≤ d.many := by unfold Dk.pages at hd; omega
  obtain ⟨j, q1, q2, q3, q4, q5⟩ := wrs_run (m := p) (Sup.make_len hs) 8 0 d hm (by omega)
  rw [hw, List.nil_append] at q2
  unfold Dk.swr
  rw [if_pos ⟨hs, hd⟩, pwr_is hs hp hd hp2]
  by_cases hz : (wrs (p : Int) s.make 8 0 d).1 = 0
  · obtain ⟨rfl, q6⟩ := q5 hz
    rw [hdn] at q6
    rw [if_pos hz]
    generalize (wrs (p : Int) s.make 8 0 d).2 = d2 at *
    dsimp only
    cases hg : d2.goes with
    | true =>
      have ha : d2.acted = { d2 with down := true } := by unfold Dk.acted; rw [hg]; rfl
      have he : d2.syncE = 5 := by unfold Dk.syncE Dk.errA; rw [q6, hg]; rfl
      cases hdo : d2.done with
      | true =>
        have hsy : d2.sync = d2.acted.settle := by unfold Dk.sync Dk.does; rw [q6, hg, hdo]; rfl
        rw [hsy, ha]
        refine ⟨q4, .inr ⟨?_, rfl⟩⟩
        show over d2.safe d2.wait = _
        rw [q3, q2]
      | false =>
        have hsy : d2.sync = d2.acted := by unfold Dk.sync Dk.does; rw [q6, hg, hdo]; rfl
        rw [hsy, ha, he]
        exact ⟨q4, .inl ⟨by decide, q3, 8, Nat.le_refl _, q2⟩⟩
    | false =>
      have hsy : d2.sync = d2.acted.settle := by unfold Dk.sync Dk.does; rw [q6, hg]; rfl
      have hwa : d2.acted.wait = d2.wait := by unfold Dk.acted; split; rfl; split <;> rfl
      have hsa : d2.acted.safe = d2.safe := by unfold Dk.acted; split; rfl; split <;> rfl
      rw [hsy]
      refine ⟨(d2.acted_many).trans q4, .inr ⟨?_, rfl⟩⟩
      show over d2.acted.safe d2.acted.wait = _
      rw [hsa, hwa, q3, q2]
  · rw [if_neg hz]
    exact ⟨q4, .inl ⟨hz, q3, j, q1, q2⟩⟩
/-- Writes of one page's sectors, laid over. -/
theorem over_page {m : Nat} {b : List Int} : ∀ (l : List (Nat × List Int)) (f : Secs), (∀ q ∈ l, ∃ t, t < 8 ∧ q = (m * 8 + t, rowK b t)) → ∀ k, over f l k = f k ∨ ∃ t, t < 8 ∧ k = m * 8 + t ∧ over f l k = some (rowK b t)
  | [], f, _, k => .inl rfl
  | q :: l, f, h, k => by
    obtain ⟨t, ht, rfl⟩ := h q (List.mem_cons_self ..)
    rw [over_cons]
    rcases over_page l (upd f (m * 8 + t) (rowK b t)) (fun q hq => h q (List.mem_cons_of_mem _ hq)) k with h1 | h1
    · by_cases e : k = m * 8 + t
      · right
        refine ⟨t, ht, e, ?_⟩
        rw [h1, e, upd_same]
      · left
        rw [h1, upd_other _ _ e]
    · exact .inr h1
theorem wlS_in {m : Nat} {b : List Int} {i j : Nat} (h : i + j ≤ 8) : ∀ q ∈ wlS m b i j, ∃ t, t < 8 ∧ q = (m * 8 + t, rowK b t) := fun q hq => by
  obtain ⟨u, hu, rfl⟩ := wlS_mem hq
  exact ⟨i + u, by omega, by rw [show m * 8 + i + u = m * 8 + (i + u) by omega]⟩
theorem over_all (m : Nat) (b : List Int) : ∀ (n i : Nat) (f : Secs) (t : Nat), i + n ≤ 8 → i ≤ t → t < i + n → over f (wlS m b i n) (m * 8 + t) = some (rowK b t)
  | 0, i, f, t, _, h1, h2 => by omega
  | n + 1, i, f, t, h8, h1, h2 => by
    rw [wlS_cons, over_cons]
    by_cases e : t = i
    · subst e
      rcases over_page (m := m) (b := b) (wlS m b (t + 1) n) (upd f (m * 8 + t) (rowK b t)) (wlS_in (by omega)) (m * 8 + t) with h3 | ⟨u, hu, h3, h4⟩
      · rw [h3, upd_same]
      · rw [h4, show u = t by omega]
    · exact over_all m b n (i + 1) _ t (by omega) (by omega) (by omega)
theorem rowK_low {s : Sup} (h : s.ok = true) {i : Nat} (h1 : 1 ≤ i) (h8 : i < 8) : rowK s.make i = zB 512 := by
  have hb : s.make = (leB 4 (moreP 0 (restL (s.ver % 2) 1 s.body)) ++ (leB 4 (s.ver % 2) ++ (leB 1 1 ++ (leB 2 (s.body.length : Int) ++ s.body)))) ++ List.replicate 4049 0 := by
    rw [Sup.make_ok h]
    unfold pageL
    conv => lhs; rhs; unfold restL
    rw [s.body_len]
    simp only [List.append_assoc]
  have hl : (leB 4 (moreP 0 (restL (s.ver % 2) 1 s.body)) ++ (leB 4 (s.ver % 2) ++ (leB 1 1 ++ (leB 2 (s.body.length : Int) ++ s.body)))).length = 47 := by simp only [List.length_append, leB_len, s.body_len]
  unfold rowK
  rw [hb, List.drop_append, hl, List.drop_eq_nil_of_le (by rw [hl]; omega), List.nil_append, List.drop_replicate, List.take_replicate]
  unfold zB
  congr 1
  omega
end Go.Proofs.YtophhnolnlbecaaDoor
namespace Go.Proofs.YtophhnolnlbecaaDoor
open Go.RowKit
set_option maxRecDepth 100000

/-- Whatever stands there or waits is of bytes. -/
structure Dk.allB (d : Dk) : Prop where
  safe : ∀ k r, d.safe k = some r → isB r
  wait : ∀ p ∈ d.wait, isB p.2
theorem over_isB : ∀ (l : List (Nat × List Int)) (f : Secs), (∀ k r, f k = some r → isB r) → (∀ p ∈ l, isB p.2) → ∀ k r, over f l k = some r → isB r
  | [], _, hf, _, k, r, h => hf k r h
  | p :: l, f, hf, hl, k, r, h => over_isB l (upd f p.1 p.2) (fun j x e => by
      by_cases c : j = p.1
      · rw [c, upd_same] at e
        injection e with e
        rw [← e]
        exact hl p (by simp)
      · rw [upd_other _ _ c] at e
        exact hf j x e) (fun q hq => hl q (by simp [hq])) k r h
theorem Dk.allB.byte {d : Dk} (h : d.allB) (ho : d.ok) : d.byte := fun k => by
  unfold Dk.look
  cases e : d.now k with
  | none => exact zB_byte 512
  | some r => exact over_isB _ _ h.safe h.wait k r (by rw [← ho.now k]; exact e)
theorem Dk.allB.new (n : Nat) : (Dk.new n).allB := ⟨(fun _ _ h => nomatch h), (fun _ h => nomatch h)⟩
theorem Dk.allB.acted {d : Dk} (h : d.allB) : d.acted.allB := by
  unfold Dk.acted
  split
  · exact ⟨h.safe, h.wait⟩
  · split
    · exact ⟨h.safe, h.wait⟩
    · exact h
theorem Dk.allB.put {d : Dk} (h : d.allB) {k : Nat} {l : List Int} (hl : isB l) : (d.put k l).allB := ⟨h.safe, fun p hp => by
  rcases List.mem_append.1 hp with hp | hp
  · exact h.wait p hp
  · rw [List.mem_singleton] at hp
    rw [hp]
    exact hl⟩
theorem Dk.allB.write {d : Dk} (h : d.allB) (at_ : Int) {l : List Int} (hl : isB l) : (d.write at_ l).allB := by
  unfold Dk.write
  split
  · exact h
  · split
    · exact h
    · split
      · exact h.acted.put hl
      · exact h.acted
theorem Dk.allB.wrs (number : Int) {b : List Int} (hb : isB b) : ∀ (n i : Nat) (d : Dk), d.allB → (wrs number b n i d).2.allB
  | 0, _, _, h => h
  | n + 1, i, d, h => by
    unfold Go.Proofs.YtophhnolnlbecaaDoor.wrs
    split
    · exact Dk.allB.wrs number hb n (i + 1) _ (h.write _ (rowK_byte hb i))
    · exact h.write _ (rowK_byte hb i)
theorem Dk.allB.pwr {d : Dk} (h : d.allB) (number kind : Int) {l : List Int} (hl : isB l) : (d.pwr number kind l).2.allB := by
  unfold Dk.pwr
  split
  · split
    · exact Dk.allB.wrs number (pageL_byte hl) 8 0 d h
    · exact h
  · exact h
theorem Dk.allB.sync {d : Dk} (h : d.allB) : d.sync.allB := by
  unfold Dk.sync
  split
  · exact h
  · split
    · exact ⟨over_isB _ _ h.acted.safe h.acted.wait, fun _ hp => by cases hp⟩
    · exact h.acted
theorem Dk.allB.crash {d : Dk} (h : d.allB) (bs : List Bool) : (d.crash bs).allB := ⟨over_isB _ _ h.safe fun p hp => h.wait p (stay_mem hp), fun _ hp => by cases hp⟩
theorem Dk.allB.arm {d : Dk} (h : d.allB) (a : Int) (b : Bool) : (d.arm a b).allB := ⟨h.safe, h.wait⟩
theorem asRow_byte {l : List Int} (h : isB l) : isB (asRow l) := by
  unfold asRow
  exact (h.take' 512).append2 (fun b hb => by have := List.eq_of_mem_replicate hb; omega)
theorem Dk.allB.plant {d : Dk} (h : d.allB) (a : Int) {l : List Int} (hl : isB l) : (d.plant a l).allB := by
  unfold Dk.plant
  split
  · refine ⟨fun k r e => ?_, fun p hp => h.wait p (List.mem_filter.1 hp).1⟩
    by_cases c : k = a.toNat
    · rw [c] at e
      have e := (upd_same _ _ _).symm.trans e
      injection e with e
      rw [← e]
      exact asRow_byte hl
    · exact h.safe k r ((upd_other _ _ c).symm.trans e)
  · exact h
theorem wrs_many (number : Int) (b : List Int) : ∀ (n i : Nat) (d : Dk), (wrs number b n i d).2.many = d.many
  | 0, _, _ => rfl
  | n + 1, i, d => by
    unfold Go.Proofs.YtophhnolnlbecaaDoor.wrs
    split
    · exact (wrs_many number b n (i + 1) _).trans (d.write_many _ _)
    · exact d.write_many _ _
theorem Dk.pwr_many (d : Dk) (number kind : Int) (l : List Int) : (d.pwr number kind l).2.many = d.many := by
  unfold Dk.pwr
  split
  · split
    · exact wrs_many _ _ _ _ _
    · rfl
  · rfl
theorem Dk.sync_many (d : Dk) : d.sync.many = d.many := by
  unfold Dk.sync
  split
  · rfl
  · split
    · exact d.acted_many
    · exact d.acted_many
theorem Dk.plant_many (d : Dk) (a : Int) (l : List Int) : (d.plant a l).many = d.many := by
  unfold Dk.plant
  split
  · rfl
  · rfl
end Go.Proofs.YtophhnolnlbecaaDoor
namespace Go.Proofs.YtophhnolnlbecaaDoor
open Go.RowKit
set_option maxRecDepth 100000

/-- A page holds that superblock, or nothing but zeros. -/
def PgH (l : List Int) (p : Int) : Option Sup → Prop
  | none => l = zB 4096
  | some s => s.ok = true ∧ s.ver % 2 = p ∧ l = s.make
theorem PgH.no {l : List Int} {p : Int} (h : PgH l p none) : sopE l p ≠ 0 := by
  have h : l = zB 4096 := h
  rw [h]
  exact sop_zeros p
theorem PgH.yes {l : List Int} {p : Int} {s : Sup} (h : PgH l p (some s)) : sopE l p = 0 ∧ sopS l p = s := by
  obtain ⟨h1, h2, rfl⟩ := h
  have h3 := sop_made h1 p
  rw [h2] at h3
  exact ⟨by rw [h3.1, if_neg (by omega), if_pos rfl], h3.2⟩
def chO : Option Sup → Option Sup → Option Sup
  | none, none => none
  | none, some t => some t
  | some s, none => some s
  | some s, some t => if s.ver < t.ver then some t else some s
theorem ch_pages {A B : List Int} {oa ob : Option Sup} (hA : PgH A 0 oa) (hB : PgH B 1 ob) {s : Sup} (h : chO oa ob = some s) : chE A B = 0 ∧ chS A B = s := by
  cases oa with
  | none =>
    cases ob with
    | none => cases h
    | some t =>
      have h1 := hA.no
      obtain ⟨h2, h3⟩ := hB.yes
      injection h with h
      subst h
      exact ⟨by unfold chE; rw [if_neg (fun k => k.2 h2)], by unfold chS; rw [if_pos h1, if_neg (fun k => k h2), h3]⟩
  | some u =>
    obtain ⟨h1, h1'⟩ := hA.yes
    cases ob with
    | none =>
      have h2 := hB.no
      injection h with h
      subst h
      exact ⟨by unfold chE; rw [if_neg (fun k => k.1 h1)], by unfold chS; rw [if_neg (fun k => k h1), if_neg (fun k => h2 k.1), h1']⟩
    | some t =>
      obtain ⟨h2, h2'⟩ := hB.yes
      refine ⟨by unfold chE; rw [if_neg (fun k => k.1 h1)], ?_⟩
      unfold chS
      rw [if_neg (fun k => k h1), h1', h2']
      have h : (if u.ver < t.ver then some t else some u) = some s := h
      split at h
      · rename_i hlt
        injection h with h
        rw [if_pos ⟨h2, hlt⟩, h]
      · rename_i hlt
        injection h with h
        rw [if_neg (fun k => hlt k.2), h]
/-- What is read of such pages. -/
theorem srd_pages {d : Dk} {oa ob : Option Sup} (hd : d.down = false) (hp : 16 ≤ d.pages) (hA : PgH (pgB d 0) 0 oa) (hB : PgH (pgB d 1) 1 ob) {s : Sup} (h : chO oa ob = some s) (hs : s.pag = d.pages) : d.srE = 0 ∧ d.srS = s := by
  obtain ⟨h1, h2⟩ := ch_pages hA hB h
  have e : d.srE = 0 := by
    unfold Dk.srE
    rw [if_neg (by omega), hd, if_neg (by decide), if_pos ⟨h1, by rw [h2]; exact hs⟩]
  exact ⟨e, by unfold Dk.srS; rw [if_pos e, h2]⟩
theorem rowK_zB {i : Nat} (h : i < 8) : rowK (zB 4096) i = zB 512 := by
  unfold rowK zB
  rw [List.drop_replicate, List.take_replicate]
  congr 1
  omega
theorem pgB_zero {d : Dk} {m : Nat} (h : ∀ i, i < 8 → d.look (m * 8 + i) = zB 512) : pgB d m = zB 4096 := pgB_of (zB_len _) fun i hi => by rw [h i hi, rowK_zB hi]
theorem Dk.allB.swr {d : Dk} (h : d.allB) (s : Sup) : (d.swr s).2.allB := by
  unfold Dk.swr
  split
  · split
    · exact (h.pwr _ _ s.body_byte).sync
    · exact h.pwr _ _ s.body_byte
  · exact h
theorem Dk.swr_many (d : Dk) (s : Sup) : (d.swr s).2.many = d.many := by
  unfold Dk.swr
  split
  · split
    · exact (Dk.sync_many _).trans (d.pwr_many _ _ _)
    · exact d.pwr_many _ _ _
  · rfl
/-- A superblock written on a disk that has power. -/
theorem swr_page {d : Dk} {s : Sup} (h : d.live) (hs : s.ok = true) (hd : s.pag = d.pages) {p q : Nat} (hp : s.ver % 2 = (p : Int)) (hp2 : p < 2) (hq : q < 2) (hpq : q ≠ p) :
    (d.swr s).1 = 0 ∧ (d.swr s).2.live ∧ (d.swr s).2.many = d.many ∧ (d.swr s).2.wait = [] ∧ pgB (d.swr s).2 p = s.make ∧ pgB (d.swr s).2 q = pgB d q := by
  obtain ⟨h1, h2, h3, h4, h5⟩ := swr_live h hs hd hp hp2
  refine ⟨h1, h2, h3, h4, pgB_of (Sup.make_len hs) fun i hi => ?_, pgB_congr fun i hi => ?_⟩
  · rw [h5, if_pos (by omega), Nat.add_sub_cancel_left]
  · rw [h5, if_neg (by omega)]
/-- Wherever the power goes. -/
theorem power_pure {s t : Sup} (hs : s.ok = true) (ht : t.ok = true) (hv : t.ver = s.ver + 1) (hg : t.pag = s.pag) (n : Nat) (hn : (n : Int) = 8 * s.pag) (acts : Int) (done : Bool) (keep : List Bool) :
    ((Dk.new n).swr s).1 = 0 ∧ (((((Dk.new n).swr s).2.arm acts done).swr t).2.crash keep).srE = 0 ∧
      (((((Dk.new n).swr s).2.arm acts done).swr t).1 = 0 → (((((Dk.new n).swr s).2.arm acts done).swr t).2.crash keep).srS = t) ∧
      ((((((Dk.new n).swr s).2.arm acts done).swr t).2.crash keep).srS = s ∨ (((((Dk.new n).swr s).2.arm acts done).swr t).2.crash keep).srS = t) := by
  have k1 := Sup.ok_yes hs
  have k2 := Sup.ok_yes ht
  obtain ⟨p, hp2, hp⟩ := Sup.page hs
  obtain ⟨m, hm2, hm⟩ := Sup.page ht
  have hpm : p ≠ m := by omega
  have hpg0 : s.pag = (Dk.new n).pages := by show s.pag = (n : Int) / 8; omega
  have hl0 : (Dk.new n).live := ⟨Dk.new_ok n, rfl, rfl⟩
  obtain ⟨w1, w2, w3, w4, w5⟩ := swr_live hl0 hs hpg0 hp hp2
  generalize (Dk.new n).swr s = A at *
  obtain ⟨ae, A⟩ := A
  dsimp only at *
  have hA : ∀ k, A.now k = A.safe k := fun k => by rw [w2.ok.now k, w4]; rfl
  have hpgA : t.pag = (A.arm acts done).pages := by show t.pag = (A.many : Int) / 8; rw [w3]; show t.pag = (n : Int) / 8; omega
  obtain ⟨r1, r2⟩ := swr_run (d := A.arm acts done) ht hpgA (show A.down = false from w2.up) (show A.wait = [] from w4) hm hm2
  generalize (A.arm acts done).swr t = C at *
  obtain ⟨ce, C⟩ := C
  dsimp only at *
  have hmany : (C.crash keep).many = n := by show C.many = n; rw [r1]; show A.many = n; rw [w3]; rfl
  have hpgs : (C.crash keep).pages = s.pag := by unfold Dk.pages; rw [hmany]; omega
  -- what is there behind the loss of power
  have hnow : ∀ k, (C.crash keep).now k = A.safe k ∨ ∃ i, i < 8 ∧ k = m * 8 + i ∧ (C.crash keep).now k = some (rowK t.make i) := fun k => by
    show over C.safe (stay C.wait keep) k = _ ∨ ∃ i, i < 8 ∧ k = m * 8 + i ∧ over C.safe (stay C.wait keep) k = _
    rcases r2 with ⟨_, r3, j, hj, r4⟩ | ⟨r3, r4⟩
    · rw [r3, r4]
      exact over_page (stay (wlS m t.make 0 j) keep) A.safe (fun q hq => wlS_in (by omega) q (stay_mem hq)) k
    · rw [r3, r4, stay_nil, over_nil]
      exact over_page (wlS m t.make 0 8) A.safe (wlS_in (by omega)) k
  have hall : ce = 0 → ∀ i, i < 8 → (C.crash keep).now (m * 8 + i) = some (rowK t.make i) := fun hce i hi => by
    rcases r2 with ⟨h, _⟩ | ⟨r3, r4⟩
    · exact absurd hce h
    · show over C.safe (stay C.wait keep) (m * 8 + i) = _
      rw [r3, r4, stay_nil, over_nil]
      exact over_all m t.make 8 0 _ i (by omega) (by omega) (by omega)
  have hlook : ∀ k, (C.crash keep).look k = A.look k ∨ ∃ i, i < 8 ∧ k = m * 8 + i ∧ (C.crash keep).look k = rowK t.make i := fun k => by
    unfold Dk.look
    rcases hnow k with h | ⟨i, hi, h1, h2⟩
    · left; rw [h, hA]
    · right; exact ⟨i, hi, h1, by rw [h2]; rfl⟩
  have hpgp : PgH (pgB (C.crash keep) p) (p : Int) (some s) := ⟨hs, hp, pgB_of (Sup.make_len hs) fun i hi => by
    rcases hlook (p * 8 + i) with h | ⟨j, hj, h1, _⟩
    · rw [h, w5, if_pos (by omega), Nat.add_sub_cancel_left]
    · omega⟩
  have hz : ∀ i, i < 8 → A.look (m * 8 + i) = zB 512 := fun i hi => by rw [w5, if_neg (by omega)]; exact zero_look n _
  have hrest : ∀ i, 1 ≤ i → i < 8 → (C.crash keep).look (m * 8 + i) = zB 512 := fun i h1 hi => by
    rcases hlook (m * 8 + i) with h | ⟨j, hj, h2, h3⟩
    · rw [h, hz i hi]
    · rw [h3, show j = i by omega, rowK_low ht h1 hi]
  have hpgm : PgH (pgB (C.crash keep) m) (m : Int) (some t) ∨ (ce ≠ 0 ∧ PgH (pgB (C.crash keep) m) (m : Int) none) := by
    have key : (C.crash keep).look (m * 8 + 0) = rowK t.make 0 → pgB (C.crash keep) m = t.make := fun h => pgB_of (Sup.make_len ht) fun i hi => by
      rcases Nat.eq_zero_or_pos i with h0 | h0
      · subst h0; exact h
      · rw [hrest i h0 hi, rowK_low ht h0 hi]
    by_cases hce : ce = 0
    · left
      refine ⟨ht, hm, key ?_⟩
      unfold Dk.look
      rw [hall hce 0 (by omega)]
      rfl
    · rcases hlook (m * 8 + 0) with h | ⟨j, hj, h2, h3⟩
      · right
        refine ⟨hce, pgB_zero fun i hi => ?_⟩
        rcases Nat.eq_zero_or_pos i with h0 | h0
        · subst h0; rw [h]; exact hz 0 (by omega)
        · exact hrest i h0 hi
      · left
        refine ⟨ht, hm, key ?_⟩
        rw [h3, show j = 0 by omega]
  have hdn : (C.crash keep).down = false := rfl
  have h16 : 16 ≤ (C.crash keep).pages := by rw [hpgs]; omega
  rcases (show p = 0 ∧ m = 1 ∨ p = 1 ∧ m = 0 by omega) with ⟨rfl, rfl⟩ | ⟨rfl, rfl⟩
  · rcases hpgm with hm1 | ⟨hce, hm1⟩
    · have h := srd_pages hdn h16 hpgp hm1 (s := t) (by show (if s.ver < t.ver then some t else some s) = some t; rw [if_pos (by omega)]) (by rw [hpgs]; exact hg)
      exact ⟨w1, h.1, fun _ => h.2, .inr h.2⟩
    · have h := srd_pages hdn h16 hpgp hm1 (s := s) rfl hpgs.symm
      exact ⟨w1, h.1, fun e => absurd e hce, .inl h.2⟩
  · rcases hpgm with hm1 | ⟨hce, hm1⟩
    · have h := srd_pages hdn h16 hm1 hpgp (s := t) (by show (if t.ver < s.ver then some s else some t) = some t; rw [if_neg (by omega)]) (by rw [hpgs]; exact hg)
      exact ⟨w1, h.1, fun _ => h.2, .inr h.2⟩
    · have h := srd_pages hdn h16 hm1 hpgp (s := s) rfl hpgs.symm
      exact ⟨w1, h.1, fun e => absurd e hce, .inl h.2⟩
end Go.Proofs.YtophhnolnlbecaaDoor
