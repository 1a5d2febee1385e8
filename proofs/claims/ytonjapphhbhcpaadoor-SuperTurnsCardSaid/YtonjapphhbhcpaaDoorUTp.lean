/- Superblocks written one behind another, and a page spoilt: plain words. No statement is proved here. -/
import Derived.Test.YtonjapphhbhcpaaDoorUDk2
namespace Go.Proofs.YtonjapphhbhcpaaDoor
open Go.RowKit
set_option maxRecDepth 100000

theorem rowK_preB {d : Dk} (h : d.ok) (m : Nat) {i : Nat} : ∀ k, i < k → rowK (preB d m k) i = d.look (m * 8 + i)
  | 0, hk => absurd hk (by omega)
  | k + 1, hk => by
    have hl := preB_len h m k
    unfold rowK
    rw [show preB d m (k + 1) = preB d m k ++ d.look (m * 8 + k) from rfl]
    by_cases e : i = k
    · subst e
      rw [← hl, List.drop_left, List.take_of_length_le (by rw [h.look_len]; omega)]
    · rw [List.drop_append_of_le_length (by omega), List.take_append_of_le_length (by rw [List.length_drop]; omega)]
      exact rowK_preB h m k (by omega)
theorem rowK_pgB {d : Dk} (h : d.ok) (m : Nat) {i : Nat} (hi : i < 8) : rowK (pgB d m) i = d.look (m * 8 + i) := rowK_preB h m 8 hi
/-- The superblock that the step i writes. -/
def tS (P : Int) (rs : List Int) (i : Nat) : Sup := ⟨1 + (i : Int), (rs[i]?.getD 0) % 16, 1 + (i : Int) / 3, P⟩
theorem tS_ok {P : Int} (rs : List Int) {i : Nat} (h1 : 16 ≤ P) (h2 : P ≤ 23) (hi : i ≤ 19) : (tS P rs i).ok = true := by
  refine decide_eq_true ?_
  show 1 ≤ 1 + (i : Int) ∧ 1 + (i : Int) ≤ 1099511627776 ∧ 1 ≤ 1 + (i : Int) / 3 ∧ 1 + (i : Int) / 3 ≤ 1099511627776 ∧ 16 ≤ P ∧ P ≤ 65536 ∧ 0 ≤ (rs[i]?.getD 0) % 16 ∧ (rs[i]?.getD 0) % 16 < P
  omega
/-- What page p holds, once so many are written. -/
def tO (P : Int) (rs : List Int) : Nat → Nat → Option Sup
  | 0, _ => none
  | j + 1, p => if (j + 1) % 2 = p then some (tS P rs j) else tO P rs j p
structure TG (P : Int) (rs : List Int) (j : Nat) (d : Dk) : Prop where
  live : d.live
  many : (d.many : Int) = 8 * P
  all : d.allB
  pg : ∀ p, p < 2 → PgH (pgB d p) (p : Int) (tO P rs j p)
theorem TG.new {P : Int} (rs : List Int) {n : Nat} (hn : (n : Int) = 8 * P) : TG P rs 0 (Dk.new n) :=
  ⟨⟨Dk.new_ok n, rfl, rfl⟩, hn, Dk.allB.new n, fun p _ => pgB_zero fun i _ => zero_look n _⟩
section
variable {P : Int} {rs : List Int} {j : Nat} {d : Dk}
theorem TG.pages (h : TG P rs j d) : d.pages = P := by
  have := h.many
  show (d.many : Int) / 8 = P
  omega
theorem TG.step (h : TG P rs j d) (h1 : 16 ≤ P) (h2 : P ≤ 23) (hj : j ≤ 19) : (d.swr (tS P rs j)).1 = 0 ∧ TG P rs (j + 1) (d.swr (tS P rs j)).2 := by
  have hok := tS_ok rs h1 h2 hj
  obtain ⟨p, hp, hq⟩ : ∃ p, p < 2 ∧ (j + 1) % 2 = p := ⟨(j + 1) % 2, by omega, rfl⟩
  have hver : (tS P rs j).ver % 2 = (p : Int) := by show (1 + (j : Int)) % 2 = _; omega
  have key : ∀ q, q < 2 → q ≠ p → _ := fun q a b => swr_page (q := q) h.live hok (show P = d.pages from h.pages.symm) hver hp a b
  have k0 := key (1 - p) (by omega) (by omega)
  refine ⟨k0.1, k0.2.1, by rw [k0.2.2.1]; exact h.many, h.all.swr _, fun q hq2 => ?_⟩
  by_cases e : q = p
  · subst e
    show PgH _ _ (if (j + 1) % 2 = q then some (tS P rs j) else tO P rs j q)
    rw [if_pos hq]
    exact ⟨hok, hver, k0.2.2.2.2.1⟩
  · show PgH _ _ (if (j + 1) % 2 = q then some (tS P rs j) else tO P rs j q)
    rw [if_neg (by omega), (key q hq2 e).2.2.2.2.2]
    exact h.pg q hq2
theorem TG.read (h : TG P rs (j + 1) d) (h1 : 16 ≤ P) : d.srE = 0 ∧ d.srS = tS P rs j := by
  have g0 := h.pg 0 (by omega)
  have g1 := h.pg 1 (by omega)
  refine srd_pages h.live.up (by rw [h.pages]; exact h1) g0 g1 ?_ h.pages.symm
  cases j with
  | zero => rfl
  | succ k =>
    show chO (if (k + 1 + 1) % 2 = 0 then some (tS P rs (k + 1)) else if (k + 1) % 2 = 0 then some (tS P rs k) else tO P rs k 0) (if (k + 1 + 1) % 2 = 1 then some (tS P rs (k + 1)) else if (k + 1) % 2 = 1 then some (tS P rs k) else tO P rs k 1) = some (tS P rs (k + 1))
    by_cases e : (k + 1) % 2 = 0
    · rw [if_neg (show ¬ (k + 1 + 1) % 2 = 0 by omega), if_pos e, if_pos (show (k + 1 + 1) % 2 = 1 by omega)]
      show (if (tS P rs k).ver < (tS P rs (k + 1)).ver then some (tS P rs (k + 1)) else some (tS P rs k)) = _
      rw [if_pos (show (tS P rs k).ver < (tS P rs (k + 1)).ver from show 1 + (k : Int) < 1 + ((k + 1 : Nat) : Int) by omega)]
    · rw [if_pos (show (k + 1 + 1) % 2 = 0 by omega), if_neg (show ¬ (k + 1 + 1) % 2 = 1 by omega), if_pos (show (k + 1) % 2 = 1 by omega)]
      show (if (tS P rs (k + 1)).ver < (tS P rs k).ver then some (tS P rs k) else some (tS P rs (k + 1))) = _
      rw [if_neg (show ¬ (tS P rs (k + 1)).ver < (tS P rs k).ver from show ¬ 1 + ((k + 1 : Nat) : Int) < 1 + (k : Int) by omega)]
theorem plant_look {d : Dk} {k : Nat} {l : List Int} (h : k < d.many) (i : Nat) : (d.plant (k : Int) l).look i = if i = k then asRow l else d.look i := by
  unfold Dk.plant
  rw [if_pos ⟨by omega, by omega⟩]
  unfold Dk.look
  show (upd d.now (k : Int).toNat (asRow l) i).getD _ = _
  rw [Int.toNat_natCast]
  by_cases e : i = k
  · subst e; rw [upd_same, if_pos rfl]; rfl
  · rw [upd_other _ _ e, if_neg e]
/-- The last one's page is spoilt. -/
theorem TG.spoilt (h : TG P rs (j + 2) d) (h1 : 16 ≤ P) {m : Nat} (hm : m = (j + 2) % 2) : (d.plant (8 * (m : Int)) []).srE = 0 ∧ (d.plant (8 * (m : Int)) []).srS = tS P rs j := by
  have hmany := h.many
  have hm2 : m < 2 := by omega
  have e8 : 8 * (m : Int) = ((m * 8 : Nat) : Int) := by omega
  have hlt : m * 8 < d.many := by omega
  rw [e8]
  have hl := fun i => plant_look (l := []) hlt i
  have hmn : (d.plant ((m * 8 : Nat) : Int) []).many = d.many := Dk.plant_many _ _ _
  have hpg : (d.plant ((m * 8 : Nat) : Int) []).pages = P := by unfold Dk.pages; rw [hmn]; omega
  have hup : (d.plant ((m * 8 : Nat) : Int) []).down = false := by
    unfold Dk.plant
    rw [if_pos ⟨by omega, by omega⟩]
    exact h.live.up
  have g1 := h.pg m hm2
  have hz : PgH (pgB (d.plant ((m * 8 : Nat) : Int) []) m) (m : Int) none := by
    have g1 : PgH (pgB d m) (m : Int) (if (j + 1 + 1) % 2 = m then some (tS P rs (j + 1)) else tO P rs (j + 1) m) := g1
    rw [if_pos (by omega)] at g1
    obtain ⟨k1, k2, k3⟩ := g1
    refine pgB_zero fun i hi => ?_
    rw [hl]
    by_cases e : i = 0
    · subst e
      rw [if_pos (by omega)]
      rfl
    · rw [if_neg (by omega)]
      have hr : rowK (pgB d m) i = d.look (m * 8 + i) := rowK_pgB h.live.ok m hi
      rw [← hr, k3]
      exact rowK_low k1 (by omega) hi
  have ho : ∀ q, q < 2 → q ≠ m → PgH (pgB (d.plant ((m * 8 : Nat) : Int) []) q) (q : Int) (some (tS P rs j)) := fun q hq hqm => by
    have g2 : PgH (pgB d q) (q : Int) (if (j + 1 + 1) % 2 = q then some (tS P rs (j + 1)) else if (j + 1) % 2 = q then some (tS P rs j) else tO P rs j q) := h.pg q hq
    rw [if_neg (by omega), if_pos (by omega)] at g2
    have e : pgB (d.plant ((m * 8 : Nat) : Int) []) q = pgB d q := pgB_congr fun i hi => by rw [hl, if_neg (by omega)]
    rw [e]
    exact g2
  rcases (show m = 0 ∨ m = 1 by omega) with e | e
  · subst e
    exact srd_pages hup (by rw [hpg]; exact h1) hz (ho 1 (by omega) (by omega)) rfl hpg.symm
  · subst e
    exact srd_pages hup (by rw [hpg]; exact h1) (ho 0 (by omega) (by omega)) hz rfl hpg.symm
end
end Go.Proofs.YtonjapphhbhcpaaDoor
