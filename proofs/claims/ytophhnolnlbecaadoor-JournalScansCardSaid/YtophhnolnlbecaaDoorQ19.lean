/- A journal on a disk whose power comes and goes: plain words. A journal's append and sync on a disk, as plain words. How the program's journal cuts what it writes into sectors, in plain words. No statement is proved here. -/
import Derived.Test.YtophhnolnlbecaaDoorQ10
import Derived.Test.YtophhnolnlbecaaDoorQ18
namespace Go.Proofs.YtophhnolnlbecaaDoor
open Go.RowKit
set_option maxRecDepth 100000

/-- Rows written one behind another, from the sector b0 + q on; up to the first that is refused. -/
def wrX (b0 : Nat) (X : Nat → List Int) : Nat → Nat → Dk → Int × Dk
  | 0, _, d => (0, d)
  | c + 1, q, d => if d.writeE ((b0 + q : Nat) : Int) (X q) = 0 then wrX b0 X c (q + 1) (d.write ((b0 + q : Nat) : Int) (X q)) else (d.writeE ((b0 + q : Nat) : Int) (X q), d.write ((b0 + q : Nat) : Int) (X q))
theorem wrX_good {b0 c q : Nat} {X : Nat → List Int} {d : Dk} (h : d.writeE ((b0 + q : Nat) : Int) (X q) = 0) : wrX b0 X (c + 1) q d = wrX b0 X c (q + 1) (d.write ((b0 + q : Nat) : Int) (X q)) := by rw [wrX, if_pos h]
theorem wrX_bad {b0 c q : Nat} {X : Nat → List Int} {d : Dk} (h : d.writeE ((b0 + q : Nat) : Int) (X q) ≠ 0) : wrX b0 X (c + 1) q d = (d.writeE ((b0 + q : Nat) : Int) (X q), d.write ((b0 + q : Nat) : Int) (X q)) := by rw [wrX, if_neg h]
def wlX (b0 : Nat) (X : Nat → List Int) (q j : Nat) : List (Nat × List Int) := (List.range j).map fun t => (b0 + q + t, X (q + t))
theorem wlX_zero (b0 : Nat) (X : Nat → List Int) (q : Nat) : wlX b0 X q 0 = [] := rfl
theorem wlX_cons (b0 : Nat) (X : Nat → List Int) (q j : Nat) : wlX b0 X q (j + 1) = (b0 + q, X q) :: wlX b0 X (q + 1) j := by
  unfold wlX
  rw [List.range_succ_eq_map, List.map_cons, List.map_map]
  congr 1
  apply List.map_congr_left
  intro t _
  show (b0 + q + (t + 1), X (q + (t + 1))) = (b0 + (q + 1) + t, X (q + 1 + t))
  rw [show b0 + q + (t + 1) = b0 + (q + 1) + t by omega, show q + (t + 1) = q + 1 + t by omega]
theorem wlX_mem {b0 : Nat} {X : Nat → List Int} {q j : Nat} {p : Nat × List Int} (h : p ∈ wlX b0 X q j) : ∃ t, t < j ∧ p = (b0 + (q + t), X (q + t)) := by
  obtain ⟨t, ht, rfl⟩ := List.mem_map.1 h
  exact ⟨t, List.mem_range.1 ht, by rw [Nat.add_assoc]⟩
theorem wrX_run {b0 : Nat} {X : Nat → List Int} (hX : ∀ q, (X q).length = 512) : ∀ (c q : Nat) (d : Dk), b0 + q + c ≤ d.many →
    ∃ j, j ≤ c ∧ (wrX b0 X c q d).2.wait = d.wait ++ wlX b0 X q j ∧ (wrX b0 X c q d).2.safe = d.safe ∧ (wrX b0 X c q d).2.many = d.many ∧ ((wrX b0 X c q d).1 = 0 ∨ (wrX b0 X c q d).1 = 5) ∧
      ((wrX b0 X c q d).1 = 0 → j = c ∧ (wrX b0 X c q d).2.down = d.down ∧ ∀ k, (wrX b0 X c q d).2.now k = if b0 + q ≤ k ∧ k < b0 + q + c then some (X (k - b0)) else d.now k)
  | 0, q, d, _ => ⟨0, Nat.le_refl _, by rw [wlX_zero, List.append_nil]; rfl, rfl, rfl, .inl rfl, fun _ => ⟨rfl, rfl, fun k => by rw [if_neg (by omega)]; rfl⟩⟩
  | c + 1, q, d, hm => by
    have hk : b0 + q < d.many := by omega
    have hl : (X q).length = 512 := hX q
    have hbad : d.badW ((b0 + q : Nat) : Int) (X q).length = false := by unfold Dk.badW; rw [hl, decide_eq_true (show 0 ≤ ((b0 + q : Nat) : Int) ∧ ((b0 + q : Nat) : Int) < d.many by omega)]; rfl
    have five : (5 : Int) = 0 ∨ (5 : Int) = 5 := .inr rfl
    by_cases hdn : d.down = true
    · have hw : d.writeE ((b0 + q : Nat) : Int) (X q) = 5 := by unfold Dk.writeE; rw [if_pos hdn]
      have hw2 : d.write ((b0 + q : Nat) : Int) (X q) = d := by unfold Dk.write; rw [if_pos hdn]
      rw [wrX_bad (by rw [hw]; decide), hw, hw2]
      exact ⟨0, Nat.zero_le _, by rw [wlX_zero, List.append_nil], rfl, rfl, five, fun h => absurd h (show (5 : Int) ≠ 0 by decide)⟩
    · have hdf : d.down = false := by simpa using hdn
      cases hg : d.goes with
      | true =>
        have hw : d.writeE ((b0 + q : Nat) : Int) (X q) = 5 := by unfold Dk.writeE Dk.errA; rw [hdf, hbad, hg]; rfl
        have ha : d.acted = { d with down := true } := by unfold Dk.acted; rw [hg]; rfl
        rw [wrX_bad (by rw [hw]; decide), hw]
        cases hdo : d.done with
        | true =>
          have hw2 : d.write ((b0 + q : Nat) : Int) (X q) = d.acted.put (b0 + q) (X q) := by unfold Dk.write Dk.does; rw [hdf, hbad, hg, hdo, Int.toNat_natCast]; rfl
          rw [hw2, ha]
          exact ⟨1, by omega, by rw [wlX_cons, wlX_zero]; rfl, rfl, rfl, five, fun h => absurd h (show (5 : Int) ≠ 0 by decide)⟩
        | false =>
          have hw2 : d.write ((b0 + q : Nat) : Int) (X q) = d.acted := by unfold Dk.write Dk.does; rw [hdf, hbad, hg, hdo]; rfl
          rw [hw2, ha]
          exact ⟨0, Nat.zero_le _, by rw [wlX_zero, List.append_nil], rfl, rfl, five, fun h => absurd h (show (5 : Int) ≠ 0 by decide)⟩
      | false =>
        have hw : d.writeE ((b0 + q : Nat) : Int) (X q) = 0 := by unfold Dk.writeE Dk.errA; rw [hdf, hbad, hg]; rfl
        have hw2 : d.write ((b0 + q : Nat) : Int) (X q) = d.acted.put (b0 + q) (X q) := by unfold Dk.write Dk.does; rw [hdf, hbad, hg, Int.toNat_natCast]; rfl
        rw [wrX_good hw, hw2]
        have hma : (d.acted.put (b0 + q) (X q)).many = d.many := d.acted_many
        obtain ⟨j, q1, q2, q3, q4, q0, q5⟩ := wrX_run (b0 := b0) hX c (q + 1) (d.acted.put (b0 + q) (X q)) (by rw [hma]; omega)
        have hwa : d.acted.wait = d.wait := by unfold Dk.acted; split; rfl; split <;> rfl
        have hsa : d.acted.safe = d.safe := by unfold Dk.acted; split; rfl; split <;> rfl
        have hna : d.acted.now = d.now := by unfold Dk.acted; split; rfl; split <;> rfl
        have hda : d.acted.down = d.down := by unfold Dk.acted; rw [hg, if_neg (by decide)]; split <;> rfl
        refine ⟨j + 1, by omega, ?_, q3.trans hsa, q4.trans hma, q0, fun h => ⟨by rw [(q5 h).1], (q5 h).2.1.trans hda, fun k => ?_⟩⟩
        · rw [q2, wlX_cons]
          show (d.acted.wait ++ [(b0 + q, X q)]) ++ wlX b0 X (q + 1) j = _
          rw [hwa, List.append_assoc]
          rfl
        · rw [(q5 h).2.2 k]
          show (if b0 + (q + 1) ≤ k ∧ k < b0 + (q + 1) + c then some (X (k - b0)) else upd d.acted.now (b0 + q) (X q) k) = _
          rw [hna]
          by_cases h1 : k = b0 + q
          · subst h1
            rw [if_neg (by omega), upd_same, if_pos (by omega), Nat.add_sub_cancel_left]
          · rw [upd_other _ _ h1]
            by_cases h2 : b0 + (q + 1) ≤ k ∧ k < b0 + (q + 1) + c
            · rw [if_pos h2, if_pos (by omega)]
            · rw [if_neg h2, if_neg (by omega)]
theorem over_memJ : ∀ (l : List (Nat × List Int)) (f : Secs) (k : Nat), over f l k = f k ∨ ∃ p ∈ l, p.1 = k ∧ over f l k = some p.2
  | [], f, k => .inl rfl
  | p :: l, f, k => by
    show over (upd f p.1 p.2) l k = f k ∨ _
    rcases over_memJ l (upd f p.1 p.2) k with h | ⟨p', h1, h2, h3⟩
    · by_cases e : k = p.1
      · subst e
        rw [upd_same] at h
        exact .inr ⟨p, List.mem_cons_self, rfl, h⟩
      · rw [upd_other _ _ e] at h
        exact .inl h
    · exact .inr ⟨p', List.mem_cons_of_mem _ h1, h2, h3⟩
section
variable {b0 n lo : Nat} {e : Int} {rs : List (List Int)} {d : Dk}
/-- A sector holds a state of the stream, not older than the record lo's. -/
def JVer (e : Int) (rs : List (List Int)) (lo q : Nat) (r : List Int) : Prop := ∃ i, lo ≤ i ∧ i ≤ rs.length ∧ 504 * q < (strmK e rs i).length ∧ r = secL e (strmK e rs i) q
def JOther (e : Int) (rs : List (List Int)) (lo q : Nat) (r : List Int) : Prop := ¬ stampIs r e ∧ (strmK e rs lo).length ≤ 504 * q
/-- Whatever stays, each sector of the area holds a state. -/
structure JP (b0 n : Nat) (e : Int) (rs : List (List Int)) (lo : Nat) (d : Dk) : Prop where
  safe : ∀ q, q < n → JOther e rs lo q ((d.safe (b0 + q)).getD zeroRow) ∨ JVer e rs lo q ((d.safe (b0 + q)).getD zeroRow)
  wait : ∀ p ∈ d.wait, ∀ q, q < n → p.1 = b0 + q → JVer e rs lo q p.2
/-- What is there now is the stream. -/
def JN (b0 n : Nat) (e : Int) (rs : List (List Int)) (d : Dk) : Prop := ∀ q, q < n → if 504 * q < (strmK e rs rs.length).length then d.now (b0 + q) = some (secL e (strmK e rs rs.length) q) else ¬ stampIs (d.look (b0 + q)) e
theorem JP.over_ (h : JP b0 n e rs lo d) {l : List (Nat × List Int)} (hl : ∀ p ∈ l, p ∈ d.wait) {q : Nat} (hq : q < n) : JOther e rs lo q ((over d.safe l (b0 + q)).getD zeroRow) ∨ JVer e rs lo q ((over d.safe l (b0 + q)).getD zeroRow) := by
  rcases over_memJ l d.safe (b0 + q) with h1 | ⟨p, h1, h2, h3⟩
  · rw [h1]; exact h.safe q hq
  · rw [h3]; exact .inr (h.wait p (hl p h1) q hq h2)
/-- What is read behind a loss of power. -/
theorem JP.read {keep : List Bool} (h : JP b0 n e rs lo d) (hok : (d.crash keep).ok) (he : jOk e) (h31 : rs.length < 2147483648) (hlen : ∀ r ∈ rs, r.length ≤ 268435456) (hlo : lo ≤ rs.length) (hn : (strmK e rs lo).length ≤ 504 * n) :
    ∃ m, lo ≤ m ∧ m ≤ rs.length ∧ (strmK e rs m).length ≤ 504 * n ∧ scanN (streamN e n (catF (fun q => (d.crash keep).look (b0 + q)) 0 n)) e = (rs.take m, (strmK e rs m).length) := by
  refine area_scan (fun i => hok.look_len _) he h31 hlen hlo hn fun q hq => ?_
  have := h.over_ (l := stay d.wait keep) (fun p hp => stay_mem hp) hq
  exact this
theorem JP.acted (h : JP b0 n e rs lo d) : JP b0 n e rs lo d.acted := by
  have hwa : d.acted.wait = d.wait := by unfold Dk.acted; split; rfl; split <;> rfl
  have hsa : d.acted.safe = d.safe := by unfold Dk.acted; split; rfl; split <;> rfl
  exact ⟨fun q hq => by rw [hsa]; exact h.safe q hq, fun p hp => h.wait p (by rw [hwa] at hp; exact hp)⟩
theorem JP.settle (h : JP b0 n e rs lo d) : JP b0 n e rs lo d.settle := ⟨fun q hq => h.over_ (l := d.wait) (fun p hp => hp) hq, fun p hp => by cases hp⟩
theorem JP.sync (h : JP b0 n e rs lo d) : JP b0 n e rs lo d.sync := by
  unfold Dk.sync
  split
  · exact h
  · split
    · exact h.acted.settle
    · exact h.acted
theorem JP.arm (h : JP b0 n e rs lo d) (a : Int) (b : Bool) : JP b0 n e rs lo (d.arm a b) := ⟨h.safe, h.wait⟩
/-- The stream so far is the same, whatever comes behind. -/
theorem strmK_app (e : Int) (rs : List (List Int)) (r : List Int) : ∀ k, k ≤ rs.length → strmK e (rs ++ [r]) k = strmK e rs k
  | 0, _ => rfl
  | k + 1, h => by rw [strmK, strmK, strmK_app e rs r k (by omega), List.getElem?_append_left (by omega)]
theorem JVer.more {q : Nat} {x r : List Int} (h : JVer e rs lo q x) : JVer e (rs ++ [r]) lo q x := by
  obtain ⟨i, h1, h2, h3, h4⟩ := h
  exact ⟨i, h1, by rw [List.length_append]; omega, by rw [strmK_app e rs r i h2]; exact h3, by rw [strmK_app e rs r i h2]; exact h4⟩
theorem JP.more (h : JP b0 n e rs lo d) (hlo : lo ≤ rs.length) (r : List Int) : JP b0 n e (rs ++ [r]) lo d :=
  ⟨fun q hq => (h.safe q hq).imp (fun h => ⟨h.1, by rw [strmK_app e rs r lo hlo]; exact h.2⟩) JVer.more, fun p hp q hq e1 => (h.wait p hp q hq e1).more⟩
end
end Go.Proofs.YtophhnolnlbecaaDoor
namespace Go.Proofs.YtophhnolnlbecaaDoor
open Go.RowKit
set_option maxRecDepth 100000

section
variable {b0 n lo : Nat} {e : Int} {rs : List (List Int)} {d : Dk}
/-- The stream with one record more. -/
def strmR (e : Int) (rs : List (List Int)) (r : List Int) : List Int := strmK e (rs ++ [r]) (rs ++ [r]).length
theorem strmR_is (e : Int) (rs : List (List Int)) (r : List Int) : strmR e rs r = strmK e rs rs.length ++ (List.replicate (begins (strmK e rs rs.length).length - (strmK e rs rs.length).length) 0 ++ jFrame e (rs.length : Int) r) := by
  unfold strmR
  rw [List.length_append, List.length_singleton, strmK, strmK_app e rs r rs.length (Nat.le_refl _), List.getElem?_append_right (Nat.le_refl _), Nat.sub_self]
  rfl
theorem strmR_len (e : Int) (rs : List (List Int)) (r : List Int) : (strmR e rs r).length = begins (strmK e rs rs.length).length + 20 + r.length := by
  have := begins_le (strmK e rs rs.length).length
  rw [strmR_is, List.length_append, List.length_append, List.length_replicate, jFrame_len]
  omega
/-- Its first and behind its last sector. -/
def jFst (e : Int) (rs : List (List Int)) : Nat := begins (strmK e rs rs.length).length / 504
def jEnd (e : Int) (rs : List (List Int)) (r : List Int) : Nat := ((strmR e rs r).length + 503) / 504
theorem jFst_lt (e : Int) (rs : List (List Int)) (r : List Int) : jFst e rs < jEnd e rs r := by
  have h1 := strmR_len e rs r
  have h2 := begins_fits (strmK e rs rs.length).length
  unfold jFst jEnd
  omega
/-- What one append does to a disk. -/
def jApp (b0 : Nat) (e : Int) (rs : List (List Int)) (r : List Int) (d : Dk) : Int × Dk := wrX b0 (secL e (strmR e rs r)) (jEnd e rs r - jFst e rs) (jFst e rs) d
theorem secL_before (e : Int) (rs : List (List Int)) (r : List Int) {q : Nat} (hq : q < jFst e rs) (h : 504 * q < (strmK e rs rs.length).length) : secL e (strmR e rs r) q = secL e (strmK e rs rs.length) q := by
  refine ext_gL (by rw [secL_len, secL_len]) fun x hx => ?_
  rw [secL_len] at hx
  by_cases h8 : x < 8
  · unfold secL
    rw [gL_app_l (by rw [leB_len]; exact h8), gL_app_l (by rw [leB_len]; exact h8)]
  · obtain ⟨y, rfl⟩ : ∃ y, x = 8 + y := ⟨x - 8, by omega⟩
    have hl := strmR_len e rs r
    have hb := begins_le (strmK e rs rs.length).length
    unfold jFst at hq
    rw [secL_at _ _ _ (by omega), secL_at _ _ _ (by omega), if_pos (by omega), strmR_is]
    by_cases h1 : 504 * q + y < (strmK e rs rs.length).length
    · rw [if_pos h1, gL_app_l h1]
    · rw [if_neg h1, gL_app_r (by omega), gL_app_l (by rw [List.length_replicate]; omega), gL_zeros]
theorem jApp_run (r : List Int) (hm : b0 + n ≤ d.many) (hr : (strmR e rs r).length ≤ 504 * n) : ∃ j, j ≤ jEnd e rs r - jFst e rs ∧ (jApp b0 e rs r d).2.wait = d.wait ++ wlX b0 (secL e (strmR e rs r)) (jFst e rs) j ∧ (jApp b0 e rs r d).2.safe = d.safe ∧ (jApp b0 e rs r d).2.many = d.many ∧ ((jApp b0 e rs r d).1 = 0 ∨ (jApp b0 e rs r d).1 = 5) ∧
    ((jApp b0 e rs r d).1 = 0 → j = jEnd e rs r - jFst e rs ∧ (jApp b0 e rs r d).2.down = d.down ∧ ∀ k, (jApp b0 e rs r d).2.now k = if b0 + jFst e rs ≤ k ∧ k < b0 + jFst e rs + (jEnd e rs r - jFst e rs) then some (secL e (strmR e rs r) (k - b0)) else d.now k) :=
  wrX_run (fun q => secL_len _ _ _) _ _ d (by
    have := jFst_lt e rs r
    have : jEnd e rs r ≤ n := by unfold jEnd; omega
    omega)
theorem JP.append (h : JP b0 n e rs lo d) (hlo : lo ≤ rs.length) (r : List Int) (hm : b0 + n ≤ d.many) (hr : (strmR e rs r).length ≤ 504 * n) : JP b0 n e (rs ++ [r]) lo (jApp b0 e rs r d).2 := by
  obtain ⟨j, h1, h2, h3, -, -, -⟩ := jApp_run (b0 := b0) (e := e) (rs := rs) (d := d) r hm hr
  have hM := h.more hlo r
  refine ⟨fun q hq => by rw [h3]; exact hM.safe q hq, fun p hp q hq e1 => ?_⟩
  rw [h2] at hp
  rcases List.mem_append.1 hp with hp | hp
  · exact hM.wait p hp q hq e1
  · obtain ⟨t, ht, rfl⟩ := wlX_mem hp
    have e2 : q = jFst e rs + t := by dsimp only at e1; omega
    subst e2
    have hlt := jFst_lt e rs r
    refine ⟨(rs ++ [r]).length, by rw [List.length_append]; omega, Nat.le_refl _, ?_, rfl⟩
    show 504 * (jFst e rs + t) < (strmR e rs r).length
    unfold jEnd at h1
    omega
theorem JN.append (h : JN b0 n e rs d) (r : List Int) (hm : b0 + n ≤ d.many) (hr : (strmR e rs r).length ≤ 504 * n) (h0 : (jApp b0 e rs r d).1 = 0) : JN b0 n e (rs ++ [r]) (jApp b0 e rs r d).2 := by
  obtain ⟨j, -, -, -, -, -, h6⟩ := jApp_run (b0 := b0) (e := e) (rs := rs) (d := d) r hm hr
  obtain ⟨-, -, h7⟩ := h6 h0
  have hlt := jFst_lt e rs r
  have hl := strmR_len e rs r
  have hb := begins_le (strmK e rs rs.length).length
  intro q hq
  have hq0 := h q hq
  show if 504 * q < (strmR e rs r).length then (jApp b0 e rs r d).2.now (b0 + q) = some (secL e (strmR e rs r) q) else ¬ stampIs ((jApp b0 e rs r d).2.look (b0 + q)) e
  unfold Dk.look at *
  rw [h7 (b0 + q)]
  have hend : jEnd e rs r = ((strmR e rs r).length + 503) / 504 := rfl
  have hfst : jFst e rs = begins (strmK e rs rs.length).length / 504 := rfl
  by_cases c1 : 504 * q < (strmR e rs r).length
  · rw [if_pos c1]
    by_cases c2 : jFst e rs ≤ q
    · rw [if_pos (by omega), Nat.add_sub_cancel_left]
    · have c3 : 504 * q < (strmK e rs rs.length).length := by
        have := begins_le (strmK e rs rs.length).length
        unfold begins at hfst
        split at hfst
        · omega
        · omega
      rw [if_neg (by omega)]
      rw [if_pos c3] at hq0
      rw [hq0, secL_before e rs r (by omega) c3]
  · rw [if_neg c1, if_neg (by omega)]
    rw [if_neg (by omega)] at hq0
    exact hq0
/-- A sync that was answered. -/
theorem JP.synced (h : JP b0 n e rs lo d) (hN : JN b0 n e rs d) (hok : d.ok) (hs : d.syncE = 0) : JP b0 n e rs rs.length d.sync ∧ JN b0 n e rs d.sync ∧ d.sync.wait = [] ∧ d.sync.down = false := by
  have hdn : d.down = false := by
    unfold Dk.syncE at hs
    cases hd : d.down with
    | false => rfl
    | true => rw [hd] at hs; cases hs
  have hg : d.goes = false := by
    unfold Dk.syncE Dk.errA at hs
    rw [hdn] at hs
    cases hg : d.goes with
    | false => rfl
    | true => rw [hg] at hs; cases hs
  have hsy : d.sync = d.acted.settle := by unfold Dk.sync Dk.does; rw [hdn, hg]; rfl
  have hwa : d.acted.wait = d.wait := by unfold Dk.acted; split; rfl; split <;> rfl
  have hsa : d.acted.safe = d.safe := by unfold Dk.acted; split; rfl; split <;> rfl
  have hna : d.acted.now = d.now := by unfold Dk.acted; split; rfl; split <;> rfl
  have hda : d.acted.down = d.down := by unfold Dk.acted; rw [hg, if_neg (by decide)]; split <;> rfl
  have hsafe : ∀ k, d.sync.safe k = d.now k := fun k => by
    rw [hsy]
    show over d.acted.safe d.acted.wait k = _
    rw [hsa, hwa, ← hok.now k]
  have hnow : d.sync.now = d.now := by rw [hsy]; exact hna
  refine ⟨⟨fun q hq => ?_, fun p hp => ?_⟩, fun q hq => ?_, by rw [hsy]; rfl, by rw [hsy]; exact hda.trans hdn⟩
  · have h1 := hN q hq
    rw [hsafe]
    by_cases c : 504 * q < (strmK e rs rs.length).length
    · rw [if_pos c] at h1
      rw [h1]
      exact .inr ⟨rs.length, Nat.le_refl _, Nat.le_refl _, c, rfl⟩
    · rw [if_neg c] at h1
      exact .inl ⟨h1, by omega⟩
  · rw [hsy] at hp
    cases hp
  · have h1 := hN q hq
    unfold Dk.look at *
    rw [hnow]
    exact h1
theorem secL_take (e : Int) {i : Nat} (hi : i ≤ rs.length) {q : Nat} (h : 504 * (q + 1) ≤ (strmK e rs i).length) : secL e (strmK e rs rs.length) q = secL e (strmK e rs i) q := by
  have hm := strmK_mono (e := e) (rs := rs) hi
  refine ext_gL (by rw [secL_len, secL_len]) fun x hx => ?_
  rw [secL_len] at hx
  by_cases h8 : x < 8
  · unfold secL
    rw [gL_app_l (by rw [leB_len]; exact h8), gL_app_l (by rw [leB_len]; exact h8)]
  · obtain ⟨y, rfl⟩ : ∃ y, x = 8 + y := ⟨x - 8, by omega⟩
    rw [secL_at _ _ _ (by omega), secL_at _ _ _ (by omega), if_pos (by omega), if_pos (by omega), strmK_at hi (by omega)]
/-- Of the first sectors just the records are found whose frames stand there whole. -/
theorem JN.some_ (h : JN b0 n e rs d) (hok : d.ok) (he : jOk e) (h31 : rs.length < 2147483648) (hlen : ∀ r ∈ rs, r.length ≤ 268435456) {c m : Nat} (hc : c ≤ n) (hm : m ≤ rs.length) (h1 : (strmK e rs m).length ≤ 504 * c) (h2 : m = rs.length ∨ 504 * c < (strmK e rs (m + 1)).length) :
    scanN (streamN e c (catF (fun q => d.look (b0 + q)) 0 c)) e = (rs.take m, (strmK e rs m).length) := by
  obtain ⟨k, k1, k2, k3, k4⟩ := area_scan (X := fun q => d.look (b0 + q)) (n := c) (lo := m) (fun i => hok.look_len _) he h31 hlen hm h1 fun q hq => by
    have h5 := h q (by omega)
    have hmm := strmK_mono (e := e) (rs := rs) hm
    by_cases c5 : 504 * q < (strmK e rs rs.length).length
    · rw [if_pos c5] at h5
      refine .inr ⟨rs.length, hm, Nat.le_refl _, c5, ?_⟩
      show (d.now (b0 + q)).getD zeroRow = _
      rw [h5]
      rfl
    · rw [if_neg c5] at h5
      exact .inl ⟨h5, by omega⟩
  have : k = m := by
    rcases Nat.lt_or_ge m k with h6 | h6
    · have := strmK_mono (e := e) (rs := rs) (show m + 1 ≤ k from h6)
      rcases h2 with h2 | h2 <;> omega
    · omega
  subst this
  exact k4
/-- What was appended is read. -/
theorem JN.read (h : JN b0 n e rs d) (hok : d.ok) (he : jOk e) (h31 : rs.length < 2147483648) (hlen : ∀ r ∈ rs, r.length ≤ 268435456) (hn : (strmK e rs rs.length).length ≤ 504 * n) :
    scanN (streamN e n (catF (fun q => d.look (b0 + q)) 0 n)) e = (rs, (strmK e rs rs.length).length) := by
  have h1 := h.some_ hok he h31 hlen (Nat.le_refl n) (Nat.le_refl _) hn (.inl rfl)
  rw [List.take_length] at h1
  exact h1
/-- An area in which no sector is of that epoch. -/
theorem JN.new (h : ∀ q, q < n → ¬ stampIs (d.look (b0 + q)) e) : JN b0 n e [] d := fun q hq => by
  rw [if_neg (by show ¬ 504 * q < 0; omega)]
  exact h q hq
theorem JP.new (h : ∀ q, q < n → ¬ stampIs (d.look (b0 + q)) e) (hok : d.ok) (hw : d.wait = []) : JP b0 n e [] 0 d := by
  refine ⟨fun q hq => .inl ⟨?_, Nat.zero_le _⟩, fun p hp => by rw [hw] at hp; cases hp⟩
  have h1 := h q hq
  unfold Dk.look at h1
  rw [hok.now, hw] at h1
  exact h1
/-- Another area's appends change nothing there. -/
theorem JN.aside {d' : Dk} (h : JN b0 n e rs d) (hd : ∀ q, q < n → d'.now (b0 + q) = d.now (b0 + q)) : JN b0 n e rs d' := fun q hq => by
  have h1 := h q hq
  unfold Dk.look at *
  rw [hd q hq]
  exact h1
end
theorem zero_stamp {e : Int} (he : jOk e) : ¬ stampIs zeroRow e := fun h => by
  have h1 : readP zeroRow 0 8 = 0 := by
    unfold readP
    rw [h.1, if_pos rfl]
    decide
  have := h.2
  unfold jOk at he
  omega
/-- A sector of another epoch. -/
theorem other_stamp {e f : Int} (he : jOk e) (hne : e ≠ f) (S : List Int) (q : Nat) : ¬ stampIs (secL e S q) f := fun h => hne ((secL_stamp he S q).2.symm.trans h.2)
end Go.Proofs.YtophhnolnlbecaaDoor
namespace Go.Proofs.YtophhnolnlbecaaDoor
open Go.RowKit
set_option maxRecDepth 100000

/-- A part of a row cut into parts of so many bytes. -/
def cutL (n : Nat) (R : List Int) (i : Nat) : List Int := (R.drop (n * i)).take n
theorem cutL_len (n : Nat) (R : List Int) (i : Nat) : (cutL n R i).length = min n (R.length - n * i) := by
  unfold cutL
  rw [List.length_take, List.length_drop]
theorem cutL_drop (n : Nat) (R : List Int) (k i : Nat) : cutL n (R.drop (n * k)) i = cutL n R (k + i) := by
  unfold cutL
  rw [List.drop_drop, ← Nat.mul_add]
theorem cutL_byte {n : Nat} {R : List Int} (h : isB R) (i : Nat) : isB (cutL n R i) := (h.drop _).take' _
/-- How many parts there are. -/
def cuts (n m : Nat) : Nat := (m + (n - 1)) / n
theorem cuts_lt {n m i : Nat} (hn : 0 < n) : i < cuts n m ↔ n * i < m := by
  unfold cuts
  rw [Nat.lt_iff_add_one_le, Nat.le_div_iff_mul_le hn, Nat.add_mul, Nat.one_mul, Nat.mul_comm i n]
  omega
/-- The bytes of a stream's last sector. -/
def lastL (S : List Int) : List Int := S.drop (504 * ((S.length - 1) / 504))
theorem lastL_len (S : List Int) : (lastL S).length = S.length - 504 * ((S.length - 1) / 504) := by
  unfold lastL
  rw [List.length_drop]
theorem lastL_le (S : List Int) : (lastL S).length ≤ 504 := by
  rw [lastL_len]
  omega
theorem lastL_byte {S : List Int} (h : isB S) : isB (lastL S) := h.drop _
theorem lastL_has (S : List Int) : begins S.length % 504 ≤ (lastL S).length := by
  rw [lastL_len]
  unfold begins
  split
  · rw [Nat.mul_mod_left]; exact Nat.zero_le _
  · omega
/-- What is written: the last sector's bytes again, and the frame. -/
theorem row_is (e : Int) (rs : List (List Int)) (r : List Int) : (lastL (strmK e rs rs.length)).take (begins (strmK e rs rs.length).length % 504) ++ jFrame e (rs.length : Int) r = (strmR e rs r).drop (504 * jFst e rs) := by
  rw [strmR_is]
  unfold jFst lastL
  generalize strmK e rs rs.length = S
  generalize jFrame e (rs.length : Int) r = F
  have hb : begins S.length = S.length ∧ S.length % 504 ≤ 484 ∨ begins S.length = (S.length / 504 + 1) * 504 ∧ 484 < S.length % 504 := by
    unfold begins
    split
    · exact .inr ⟨rfl, by assumption⟩
    · exact .inl ⟨rfl, by omega⟩
  rcases hb with ⟨e1, h1⟩ | ⟨e1, h1⟩
  · rw [e1, Nat.sub_self, List.replicate_zero, List.nil_append]
    by_cases h0 : S.length % 504 = 0
    · rw [h0, List.take_zero, List.nil_append, show 504 * (S.length / 504) = S.length by omega, List.drop_left]
    · rw [show (S.length - 1) / 504 = S.length / 504 by omega, List.take_of_length_le (by rw [List.length_drop]; omega), List.drop_append_of_le_length (by omega)]
  · rw [e1, Nat.mul_mod_left, List.take_zero, List.nil_append, Nat.mul_div_cancel _ (by decide : 0 < 504), ← List.append_assoc, show 504 * (S.length / 504 + 1) = (S ++ List.replicate ((S.length / 504 + 1) * 504 - S.length) (0 : Int)).length by rw [List.length_append, List.length_replicate]; omega, List.drop_left]
theorem row_len (e : Int) (rs : List (List Int)) (r : List Int) : ((strmR e rs r).drop (504 * jFst e rs)).length = (strmR e rs r).length - 504 * jFst e rs := by rw [List.length_drop]
theorem row_cuts (e : Int) (rs : List (List Int)) (r : List Int) : cuts 504 ((strmR e rs r).drop (504 * jFst e rs)).length = jEnd e rs r - jFst e rs := by
  have h := jFst_lt e rs r
  rw [row_len]
  unfold jEnd at *
  unfold cuts
  omega
theorem row_last (e : Int) (rs : List (List Int)) (r : List Int) : cutL 504 ((strmR e rs r).drop (504 * jFst e rs)) (jEnd e rs r - jFst e rs - 1) = lastL (strmR e rs r) := by
  have h := jFst_lt e rs r
  have h2 := strmR_len e rs r
  rw [cutL_drop]
  unfold cutL lastL
  rw [show jFst e rs + (jEnd e rs r - jFst e rs - 1) = ((strmR e rs r).length - 1) / 504 by unfold jEnd at *; omega, List.take_of_length_le (by rw [List.length_drop]; omega)]
/-- A sector of that epoch whose part of the stream begins with these bytes. -/
def stampL (e : Int) (p : List Int) : List Int := leB 8 e ++ (p ++ List.replicate (504 - p.length) 0)
theorem stampL_len (e : Int) {p : List Int} (h : p.length ≤ 504) : (stampL e p).length = 512 := by
  unfold stampL
  rw [List.length_append, leB_len, List.length_append, List.length_replicate]
  omega
theorem stampL_byte (e : Int) {p : List Int} (h : isB p) : isB (stampL e p) := (leB_byte _ _).append2 (h.append2 (zB_byte _))
theorem stampL_sec (e : Int) (S : List Int) (q : Nat) : stampL e (cutL 504 S q) = secL e S q := by
  unfold stampL secL
  have h := cutL_len 504 S q
  unfold cutL at *
  rw [h, show 504 - min 504 (S.length - 504 * q) = 504 - (S.length - 504 * q) by omega]
theorem row_sec (e : Int) (rs : List (List Int)) (r : List Int) (i : Nat) : stampL e (cutL 504 ((strmR e rs r).drop (504 * jFst e rs)) i) = secL e (strmR e rs r) (jFst e rs + i) := by
  rw [cutL_drop, stampL_sec]
end Go.Proofs.YtophhnolnlbecaaDoor
