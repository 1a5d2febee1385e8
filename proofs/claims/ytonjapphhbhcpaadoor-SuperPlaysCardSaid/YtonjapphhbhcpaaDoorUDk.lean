/- Superblocks on a disk, as plain words: no program here. No statement is proved here. -/
import Derived.Test.YtonjapphhbhcpaaDoorUPure
import Derived.Test.YtonjapphhbhcpaaDoorGKp
namespace Go.Proofs.YtonjapphhbhcpaaDoor
open Go.RowKit
set_option maxRecDepth 100000

/-- A superblock written: the error, the disk. -/
def Dk.swr (d : Dk) (s : Sup) : Int × Dk :=
  if s.ok = true ∧ s.pag = d.pages then
    if (d.pwr (s.ver % 2) 1 s.body).1 = 0 then ((d.pwr (s.ver % 2) 1 s.body).2.syncE, (d.pwr (s.ver % 2) 1 s.body).2.sync) else d.pwr (s.ver % 2) 1 s.body
  else (1, d)
/-- The one that holds: the error, the superblock. -/
def Dk.srE (d : Dk) : Int := if d.pages < 16 then 140 else if d.down then 5 else if chE (pgB d 0) (pgB d 1) = 0 ∧ (chS (pgB d 0) (pgB d 1)).pag = d.pages then 0 else 140
def Dk.srS (d : Dk) : Sup := if d.srE = 0 then chS (pgB d 0) (pgB d 1) else Sup.zero
theorem Sup.page {s : Sup} (h : s.ok = true) : ∃ p : Nat, p < 2 ∧ s.ver % 2 = (p : Int) := ⟨(s.ver % 2).toNat, by omega, by omega⟩
theorem pwr_is {d : Dk} {s : Sup} {p : Nat} (h : s.ok = true) (hp : s.ver % 2 = (p : Int)) (hd : s.pag = d.pages) (hp2 : p < 2) : d.pwr (s.ver % 2) 1 s.body = wrs (p : Int) s.make 8 0 d := by
  have h1 := Sup.ok_yes h
  have hg : makeE (s.ver % 2) 1 s.body.length = 0 := by unfold makeE; rw [Sup.okG]; rfl
  unfold Dk.pwr
  rw [if_pos hg, if_pos (by omega), Sup.make_ok h, hp]
/-- Written on a disk that has power. -/
theorem swr_live {d : Dk} {s : Sup} (h : d.live) (hs : s.ok = true) (hd : s.pag = d.pages) {p : Nat} (hp : s.ver % 2 = (p : Int)) (hp2 : p < 2) :
    (d.swr s).1 = 0 ∧ (d.swr s).2.live ∧ (d.swr s).2.many = d.many ∧ (d.swr s).2.wait = [] ∧ ∀ j, (d.swr s).2.look j = if p * 8 ≤ j ∧ j < p * 8 + 8 then rowK s.make (j - p * 8) else d.look j := by
  have h1 := Sup.ok_yes hs
  have hm : p * 8 + 0 + 8 ≤ d.many := by unfold Dk.pages at hd; omega
  obtain ⟨p1, p2, p3, p4⟩ := wrs_live (m := p) (Sup.make_len hs) 8 0 d h hm (by omega)
  have e : d.swr s = ((wrs (p : Int) s.make 8 0 d).2.syncE, (wrs (p : Int) s.make 8 0 d).2.sync) := by
    unfold Dk.swr
    rw [if_pos ⟨hs, hd⟩, pwr_is hs hp hd hp2, if_pos p1]
  have e2 : (wrs (p : Int) s.make 8 0 d).2.sync = (wrs (p : Int) s.make 8 0 d).2.settle := by unfold Dk.sync; rw [p2.up, p2.does, p2.acted]; rfl
  rw [e]
  dsimp only
  rw [e2]
  exact ⟨by unfold Dk.syncE Dk.errA; rw [p2.up, p2.goes]; rfl, ⟨Dk.settle_ok p2.ok, p2.armed, p2.up⟩, p3, rfl, fun j => p4 j⟩
/-- Writes of a page's sectors, the first j of them. -/
def wlS (m : Nat) (b : List Int) (i j : Nat) : List (Nat × List Int) := (List.range j).map fun t => (m * 8 + i + t, rowK b (i + t))
theorem wlS_zero (m : Nat) (b : List Int) (i : Nat) : wlS m b i 0 = [] := rfl
theorem wlS_cons (m : Nat) (b : List Int) (i j : Nat) : wlS m b i (j + 1) = (m * 8 + i, rowK b i) :: wlS m b (i + 1) j := by
  unfold wlS
  rw [List.range_succ_eq_map, List.map_cons, List.map_map]
  congr 1
  apply List.map_congr_left
  intro t _
  show (m * 8 + i + (t + 1), rowK b (i + (t + 1))) = (m * 8 + (i + 1) + t, rowK b (i + 1 + t))
  rw [show m * 8 + i + (t + 1) = m * 8 + (i + 1) + t by omega, show i + (t + 1) = i + 1 + t by omega]
theorem wlS_mem {m : Nat} {b : List Int} {i j : Nat} {q : Nat × List Int} (h : q ∈ wlS m b i j) : ∃ t, t < j ∧ q = (m * 8 + i + t, rowK b (i + t)) := by
  obtain ⟨t, ht, rfl⟩ := List.mem_map.1 h
  exact ⟨t, List.mem_range.1 ht, rfl⟩
/-- The sectors of a page written on a disk that may go down. -/
theorem wrs_run {m : Nat} {b : List Int} (hb : b.length = 4096) : ∀ (n i : Nat) (d : Dk), m * 8 + i + n ≤ d.many → i + n ≤ 8 →
    ∃ j, j ≤ n ∧ (wrs (m : Int) b n i d).2.wait = d.wait ++ wlS m b i j ∧ (wrs (m : Int) b n i d).2.safe = d.safe ∧ (wrs (m : Int) b n i d).2.many = d.many ∧ ((wrs (m : Int) b n i d).1 = 0 → j = n ∧ (wrs (m : Int) b n i d).2.down = d.down)
  | 0, i, d, _, _ => ⟨0, Nat.le_refl _, by rw [wlS_zero, List.append_nil]; rfl, rfl, rfl, fun _ => ⟨rfl, rfl⟩⟩
  | n + 1, i, d, hm, hi => by
    have hk : m * 8 + i < d.many := by omega
    have hl : (rowK b i).length = 512 := rowK_len hb (by omega)
    have e : (m : Int) * 8 + i = ((m * 8 + i : Nat) : Int) := by omega
    have hbad : d.badW ((m * 8 + i : Nat) : Int) (rowK b i).length = false := by unfold Dk.badW; rw [hl, decide_eq_true (show 0 ≤ ((m * 8 + i : Nat) : Int) ∧ ((m * 8 + i : Nat) : Int) < d.many by omega)]; rfl
    by_cases hdn : d.down = true
    · have hw : d.writeE ((m : Int) * 8 + i) (rowK b i) = 5 := by unfold Dk.writeE; rw [if_pos hdn]
      have hw2 : d.write ((m : Int) * 8 + i) (rowK b i) = d := by unfold Dk.write; rw [if_pos hdn]
      rw [wrs_bad (by rw [hw]; decide), hw, hw2]
      exact ⟨0, Nat.zero_le _, by rw [wlS_zero, List.append_nil], rfl, rfl, fun h => absurd h (show (5 : Int) ≠ 0 by decide)⟩
    · have hdf : d.down = false := by simpa using hdn
      cases hg : d.goes with
      | true =>
        have hw : d.writeE ((m : Int) * 8 + i) (rowK b i) = 5 := by unfold Dk.writeE Dk.errA; rw [e, hdf, hbad, hg]; rfl
        have ha : d.acted = { d with down := true } := by unfold Dk.acted; rw [hg]; rfl
        rw [wrs_bad (by rw [hw]; decide), hw]
        cases hdo : d.done with
        | true =>
          have hw2 : d.write ((m : Int) * 8 + i) (rowK b i) = d.acted.put (m * 8 + i) (rowK b i) := by unfold Dk.write Dk.does; rw [e, hdf, hbad, hg, hdo, Int.toNat_natCast]; rfl
          rw [hw2, ha]
          exact ⟨1, by omega, by rw [wlS_cons, wlS_zero]; rfl, rfl, rfl, fun h => absurd h (show (5 : Int) ≠ 0 by decide)⟩
        | false =>
          have hw2 : d.write ((m : Int) * 8 + i) (rowK b i) = d.acted := by unfold Dk.write Dk.does; rw [e, hdf, hbad, hg, hdo]; rfl
          rw [hw2, ha]
          exact ⟨0, Nat.zero_le _, by rw [wlS_zero, List.append_nil], rfl, rfl, fun h => absurd h (show (5 : Int) ≠ 0 by decide)⟩
      | false =>
        have hw : d.writeE ((m : Int) * 8 + i) (rowK b i) = 0 := by unfold Dk.writeE Dk.errA; rw [e, hdf, hbad, hg]; rfl
        have hw2 : d.write ((m : Int) * 8 + i) (rowK b i) = d.acted.put (m * 8 + i) (rowK b i) := by unfold Dk.write Dk.does; rw [e, hdf, hbad, hg, Int.toNat_natCast]; rfl
        rw [wrs_good hw, hw2]
        have hma : (d.acted.put (m * 8 + i) (rowK b i)).many = d.many := d.acted_many
        obtain ⟨j, q1, q2, q3, q4, q5⟩ := wrs_run (m := m) hb n (i + 1) (d.acted.put (m * 8 + i) (rowK b i)) (by rw [hma]; omega) (by omega)
        have hwa : d.acted.wait = d.wait := by unfold Dk.acted; split; rfl; split <;> rfl
        have hsa : d.acted.safe = d.safe := by unfold Dk.acted; split; rfl; split <;> rfl
        have hda : d.acted.down = d.down := by unfold Dk.acted; rw [hg, if_neg (by decide)]; split <;> rfl
        refine ⟨j + 1, by omega, ?_, q3.trans hsa, q4.trans hma, fun h => ⟨by rw [(q5 h).1], (q5 h).2.trans hda⟩⟩
        rw [q2, wlS_cons]
        show (d.acted.wait ++ [(m * 8 + i, rowK b i)]) ++ wlS m b (i + 1) j = _
        rw [hwa, List.append_assoc]
        rfl
/-- What a superblock's write leaves, wherever the power goes. -/
theorem swr_run {d : Dk} {s : Sup} (hs : s.ok = true) (hd : s.pag = d.pages) (hdn : d.down = false) (hw : d.wait = []) {p : Nat} (hp : s.ver % 2 = (p : Int)) (hp2 : p < 2) :
    (d.swr s).2.many = d.many ∧ (((d.swr s).1 ≠ 0 ∧ (d.swr s).2.safe = d.safe ∧ ∃ j, j ≤ 8 ∧ (d.swr s).2.wait = wlS p s.make 0 j) ∨ ((d.swr s).2.safe = over d.safe (wlS p s.make 0 8) ∧ (d.swr s).2.wait = [])) := by
  have h1 := Sup.ok_yes hs
  have hm : p * 8 + 0 + 8 ≤ d.many := by unfold Dk.pages at hd; omega
  obtain ⟨j, q1, q2, q3, q4, q5⟩ := wrs_run (m := p) (Sup.make_len hs) 8 0 d hm (by omega)
  rw [hw, List.nil_append] at q2
  unfold Dk.swr
  rw [if_pos ⟨hs, hd⟩, pwr_is hs hp hd hp2]
  by_cases hz : (wrs (p : Int) s.make 8 0 d).1 = 0
  · obtain ⟨rfl, q6⟩ := q5 hz
    rw [hdn] at q6
    rw [if_pos hz]
    generalize (wrs (p : Int) s.make 8 0 d).2 = d2 at *
    dsimp only
    cases hg : d2.goes with
    | true =>
      have ha : d2.acted = { d2 with down := true } := by unfold Dk.acted; rw [hg]; rfl
      have he : d2.syncE = 5 := by unfold Dk.syncE Dk.errA; rw [q6, hg]; rfl
      cases hdo : d2.done with
      | true =>
        have hsy : d2.sync = d2.acted.settle := by unfold Dk.sync Dk.does; rw [q6, hg, hdo]; rfl
        rw [hsy, ha]
        refine ⟨q4, .inr ⟨?_, rfl⟩⟩
        show over d2.safe d2.wait = _
        rw [q3, q2]
      | false =>
        have hsy : d2.sync = d2.acted := by unfold Dk.sync Dk.does; rw [q6, hg, hdo]; rfl
        rw [hsy, ha, he]
        exact ⟨q4, .inl ⟨by decide, q3, 8, Nat.le_refl _, q2⟩⟩
    | false =>
      have hsy : d2.sync = d2.acted.settle := by unfold Dk.sync Dk.does; rw [q6, hg]; rfl
      have hwa : d2.acted.wait = d2.wait := by unfold Dk.acted; split; rfl; split <;> rfl
      have hsa : d2.acted.safe = d2.safe := by unfold Dk.acted; split; rfl; split <;> rfl
      rw [hsy]
      refine ⟨(d2.acted_many).trans q4, .inr ⟨?_, rfl⟩⟩
      show over d2.acted.safe d2.acted.wait = _
      rw [hsa, hwa, q3, q2]
  · rw [if_neg hz]
    exact ⟨q4, .inl ⟨hz, q3, j, q1, q2⟩⟩
/-- Writes of one page's sectors, laid over. -/
theorem over_page {m : Nat} {b : List Int} : ∀ (l : List (Nat × List Int)) (f : Secs), (∀ q ∈ l, ∃ t, t < 8 ∧ q = (m * 8 + t, rowK b t)) → ∀ k, over f l k = f k ∨ ∃ t, t < 8 ∧ k = m * 8 + t ∧ over f l k = some (rowK b t)
  | [], f, _, k => .inl rfl
  | q :: l, f, h, k => by
    obtain ⟨t, ht, rfl⟩ := h q (List.mem_cons_self ..)
    rw [over_cons]
    rcases over_page l (upd f (m * 8 + t) (rowK b t)) (fun q hq => h q (List.mem_cons_of_mem _ hq)) k with h1 | h1
    · by_cases e : k = m * 8 + t
      · right
        refine ⟨t, ht, e, ?_⟩
        rw [h1, e, upd_same]
      · left
        rw [h1, upd_other _ _ e]
    · exact .inr h1
theorem wlS_in {m : Nat} {b : List Int} {i j : Nat} (h : i + j ≤ 8) : ∀ q ∈ wlS m b i j, ∃ t, t < 8 ∧ q = (m * 8 + t, rowK b t) := fun q hq => by
  obtain ⟨u, hu, rfl⟩ := wlS_mem hq
  exact ⟨i + u, by omega, by rw [show m * 8 + i + u = m * 8 + (i + u) by omega]⟩
theorem over_all (m : Nat) (b : List Int) : ∀ (n i : Nat) (f : Secs) (t : Nat), i + n ≤ 8 → i ≤ t → t < i + n → over f (wlS m b i n) (m * 8 + t) = some (rowK b t)
  | 0, i, f, t, _, h1, h2 => by omega
  | n + 1, i, f, t, h8, h1, h2 => by
    rw [wlS_cons, over_cons]
    by_cases e : t = i
    · subst e
      rcases over_page (m := m) (b := b) (wlS m b (t + 1) n) (upd f (m * 8 + t) (rowK b t)) (wlS_in (by omega)) (m * 8 + t) with h3 | ⟨u, hu, h3, h4⟩
      · rw [h3, upd_same]
      · rw [h4, show u = t by omega]
    · exact over_all m b n (i + 1) _ t (by omega) (by omega) (by omega)
theorem rowK_low {s : Sup} (h : s.ok = true) {i : Nat} (h1 : 1 ≤ i) (h8 : i < 8) : rowK s.make i = zB 512 := by
  have hb : s.make = (leB 4 (moreP 0 (restL (s.ver % 2) 1 s.body)) ++ (leB 4 (s.ver % 2) ++ (leB 1 1 ++ (leB 2 (s.body.length : Int) ++ s.body)))) ++ List.replicate 4049 0 := by
    rw [Sup.make_ok h]
    unfold pageL
    conv => lhs; rhs; unfold restL
    rw [s.body_len]
    simp only [List.append_assoc]
  have hl : (leB 4 (moreP 0 (restL (s.ver % 2) 1 s.body)) ++ (leB 4 (s.ver % 2) ++ (leB 1 1 ++ (leB 2 (s.body.length : Int) ++ s.body)))).length = 47 := by simp only [List.length_append, leB_len, s.body_len]
  unfold rowK
  rw [hb, List.drop_append, hl, List.drop_eq_nil_of_le (by rw [hl]; omega), List.nil_append, List.drop_replicate, List.take_replicate]
  unfold zB
  congr 1
  omega
end Go.Proofs.YtonjapphhbhcpaaDoor
