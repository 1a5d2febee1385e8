/- A page's row, part by part. The program's Read of a page. Pages written one behind another on a disk that has power, as plain words: no program here. No statement is proved here. -/
import Derived.Test.YtophhnolnlbecaaDoorQ16
import Derived.Test.YtophhnolnlbecaaDoorQ2
import Derived.Test.YtophhnolnlbecaaDoorQ14
import Derived.Test.YtophhnolnlbecaaDoorDBlk3
import Derived.Test.YtophhnolnlbecaaDoorQ9
namespace Go.Proofs.YtophhnolnlbecaaDoor
open Go.RowKit
set_option maxRecDepth 100000

def zB (n : Nat) : List Int := List.replicate n 0
theorem zB_len (n : Nat) : (zB n).length = n := List.length_replicate
theorem zB_add (a b : Nat) : zB (a + b) = zB a ++ zB b := List.replicate_append_replicate.symm
/-- A page's parts: the sum, the number, the kind, the length, the rest. -/
def partsL (s nm kd ln bd : List Int) : List Int := s ++ (nm ++ (kd ++ (ln ++ bd)))
theorem parts_zero : zB 4096 = partsL (zB 4) (zB 4) (zB 1) (zB 2) (zB 4085) := by
  unfold partsL
  rw [← zB_add, ← zB_add, ← zB_add, ← zB_add]
section
variable {s nm kd ln bd x : List Int}
theorem parts_len (h1 : s.length = 4) (h2 : nm.length = 4) (h3 : kd.length = 1) (h4 : ln.length = 2) (h5 : bd.length = 4085) : (partsL s nm kd ln bd).length = 4096 := by
  unfold partsL
  simp only [List.length_append]
  omega
theorem parts_s (h1 : s.length = x.length) : spl (partsL s nm kd ln bd) 0 x = partsL x nm kd ln bd := spl_mid (a := []) h1 rfl
theorem parts_nm (h1 : s.length = 4) (h2 : nm.length = x.length) : spl (partsL s nm kd ln bd) 4 x = partsL s x kd ln bd := spl_mid h2 h1.symm
theorem parts_ln (h1 : s.length = 4) (h2 : nm.length = 4) (h3 : kd.length = 1) (h4 : ln.length = x.length) : spl (partsL s nm kd ln bd) 9 x = partsL s nm kd x bd := by
  have e : ∀ y : List Int, partsL s nm kd y bd = (s ++ nm ++ kd) ++ (y ++ bd) := fun y => by unfold partsL; simp only [List.append_assoc]
  rw [e, e]
  exact spl_mid h4 (by simp only [List.length_append]; omega)
theorem parts_bd {m r : List Int} (h1 : s.length = 4) (h2 : nm.length = 4) (h3 : kd.length = 1) (h4 : ln.length = 2) (h5 : m.length = x.length) : spl (partsL s nm kd ln (m ++ r)) 11 x = partsL s nm kd ln (x ++ r) := by
  have e : ∀ y : List Int, partsL s nm kd ln (y ++ r) = (s ++ nm ++ kd ++ ln) ++ (y ++ r) := fun y => by unfold partsL; simp only [List.append_assoc]
  rw [e, e]
  exact spl_mid h5 (by simp only [List.length_append]; omega)
theorem parts_kd {y z : Int} (h1 : s.length = 4) (h2 : nm.length = 4) : (partsL s nm [y] ln bd).set 8 z = partsL s nm [z] ln bd := by
  have e : ∀ y : Int, partsL s nm [y] ln bd = (s ++ nm) ++ (y :: (ln ++ bd)) := fun y => by unfold partsL; simp only [List.append_assoc]; rfl
  rw [e, e, List.set_append_right _ _ (by simp only [List.length_append]; omega)]
  simp only [List.length_append, h1, h2]
  rfl
theorem parts_drop (h1 : s.length = 4) : (partsL s nm kd ln bd).drop 4 = nm ++ (kd ++ (ln ++ bd)) := List.drop_left' h1
end
theorem parts_page (number kind : Int) (body : List Int) : partsL (leB 4 (moreP 0 (restL number kind body))) (leB 4 number) (leB 1 kind) (leB 2 (body.length : Int)) (body ++ zB (4085 - body.length)) = pageL number kind body := rfl
end Go.Proofs.YtophhnolnlbecaaDoor
namespace Go.Proofs.YtophhnolnlbecaaDoor
open Go.RowKit
set_option maxRecDepth 100000

/-- What a page's reading tells. -/
def PrTo (d : Dk) (number : Int) (w : World) (e : Ending) (w' : World) : Prop := ∃ v, e = .returned (.tuple #[.int .i64 (d.prK number), v, errV (d.prE number)]) ∧ OwnB w' w.heap.size v (d.prL number) ∧ Below w.heap.size w w'
theorem PrTo.bad {d : Dk} {number : Int} {w w' : World} {n : Int} (h : d.prE number = n) (hn : n ≠ 0) (hb : Below w.heap.size w w') : PrTo d number w (.returned (.tuple #[.int .i64 0, .slice none 0 0, .iface 25 (.int .i64 n)])) w' := by
  have h0 : d.prE number ≠ 0 := by rw [h]; exact hn
  exact ⟨_, by unfold Dk.prK; rw [if_neg h0, h, errV_mk hn], by unfold Dk.prL; rw [if_neg h0]; exact OwnB.nil _ _, hb⟩
/-- Every byte of a disk is a byte. -/
def Dk.byte (d : Dk) : Prop := ∀ k, isB (d.look k)
theorem preB_byte {d : Dk} (h : d.byte) (number : Nat) : ∀ k, isB (preB d number k)
  | 0 => isB.nil
  | k + 1 => (preB_byte h number k).append2 (h _)
theorem pre_step {d : Dk} (h : d.ok) (m : Nat) {k : Nat} (hk : k < 8) : spl (preB d m k ++ zB (4096 - 512 * k)) (k * 512) (d.look (m * 8 + k)) = preB d m (k + 1) ++ zB (4096 - 512 * (k + 1)) := by
  have hl := h.look_len (m * 8 + k)
  have e : zB (4096 - 512 * k) = zB 512 ++ zB (4096 - 512 * (k + 1)) := by rw [← zB_add]; congr 1; omega
  rw [e, spl_mid (by rw [zB_len, hl]) (by rw [preB_len h]; omega)]
  show _ = (preB d m k ++ d.look (m * 8 + k)) ++ _
  rw [List.append_assoc]
end Go.Proofs.YtophhnolnlbecaaDoor
namespace Go.Proofs.YtophhnolnlbecaaDoor
open Go.RowKit
set_option maxRecDepth 100000

theorem rowK_take {b : List Int} (hb : b.length = 4096) : ∀ k, k ≤ 8 → b.take (512 * k) ++ rowK b k = b.take (512 * (k + 1)) := fun k hk => by
  unfold rowK
  rw [show 512 * (k + 1) = 512 * k + 512 by omega, List.take_add]
/-- A disk that has power and is not armed. -/
structure Dk.live (d : Dk) : Prop where
  ok : d.ok
  armed : d.armed = false
  up : d.down = false
theorem Dk.live.goes {d : Dk} (h : d.live) : d.goes = false := by unfold Dk.goes; rw [h.armed]; rfl
theorem Dk.live.acted {d : Dk} (h : d.live) : d.acted = d := by unfold Dk.acted; rw [h.goes, h.armed]; rfl
theorem Dk.live.does {d : Dk} (h : d.live) : d.does = true := by unfold Dk.does; rw [h.goes]; rfl
theorem Dk.live.write {d : Dk} (h : d.live) {k : Nat} {l : List Int} (hk : k < d.many) (hl : l.length = 512) : d.writeE (k : Int) l = 0 ∧ d.write (k : Int) l = d.put k l := by
  have hb : d.badW (k : Int) l.length = false := by unfold Dk.badW; rw [hl, decide_eq_true (show 0 ≤ (k : Int) ∧ (k : Int) < d.many by omega)]; rfl
  constructor
  · unfold Dk.writeE Dk.errA
    rw [h.up, hb, h.goes]
    rfl
  · unfold Dk.write
    rw [h.up, hb, h.does, h.acted, Int.toNat_natCast]
    rfl
theorem Dk.look_put (d : Dk) (k : Nat) (l : List Int) (i : Nat) : (d.put k l).look i = if i = k then l else d.look i := by
  unfold Dk.look Dk.put
  by_cases e : i = k
  · rw [if_pos e, e]
    simp [upd_same]
  · rw [if_neg e]
    simp [upd_other _ _ e]
theorem Dk.live.put {d : Dk} (h : d.live) {k : Nat} {l : List Int} (hk : k < d.many) (hl : l.length = 512) : (d.put k l).live := ⟨Dk.put_ok h.ok hk hl, h.armed, h.up⟩
/-- A row of sectors written on such a disk. -/
theorem wrs_live {m : Nat} {b : List Int} (hb : b.length = 4096) : ∀ (n i : Nat) (d : Dk), d.live → m * 8 + i + n ≤ d.many → i + n ≤ 8 →
    (wrs (m : Int) b n i d).1 = 0 ∧ (wrs (m : Int) b n i d).2.live ∧ (wrs (m : Int) b n i d).2.many = d.many ∧
    ∀ j, (wrs (m : Int) b n i d).2.look j = if m * 8 + i ≤ j ∧ j < m * 8 + i + n then rowK b (j - m * 8) else d.look j
  | 0, i, d, h, _, _ => ⟨rfl, h, rfl, fun j => by rw [if_neg (by omega)]; rfl⟩
  | n + 1, i, d, h, hm, hi => by
    have hk : m * 8 + i < d.many := by omega
    have hl : (rowK b i).length = 512 := rowK_len hb (by omega)
    have hw := h.write hk hl
    have e : ((m * 8 + i : Nat) : Int) = (m : Int) * 8 + i := by omega
    rw [e] at hw
    rw [wrs_good hw.1, hw.2]
    obtain ⟨p1, p2, p3, p4⟩ := wrs_live (m := m) hb n (i + 1) (d.put (m * 8 + i) (rowK b i)) (h.put hk hl) (by show _ ≤ d.many; omega) (by omega)
    refine ⟨p1, p2, p3, fun j => ?_⟩
    rw [p4 j, Dk.look_put]
    by_cases c1 : m * 8 + (i + 1) ≤ j ∧ j < m * 8 + (i + 1) + n
    · rw [if_pos c1, if_pos (by omega)]
    · rw [if_neg c1]
      by_cases c2 : j = m * 8 + i
      · rw [if_pos c2, if_pos (by omega), c2, Nat.add_sub_cancel_left]
      · rw [if_neg c2, if_neg (by omega)]
theorem preB_congr {d d' : Dk} {m : Nat} (h : ∀ i, i < 8 → d.look (m * 8 + i) = d'.look (m * 8 + i)) : ∀ k, k ≤ 8 → preB d m k = preB d' m k
  | 0, _ => rfl
  | k + 1, hk => by
    show preB d m k ++ _ = preB d' m k ++ _
    rw [preB_congr h k (by omega), h k (by omega)]
theorem pgB_congr {d d' : Dk} {m : Nat} (h : ∀ i, i < 8 → d.look (m * 8 + i) = d'.look (m * 8 + i)) : pgB d m = pgB d' m := preB_congr h 8 (Nat.le_refl _)
theorem preB_of {d : Dk} {m : Nat} {b : List Int} (hb : b.length = 4096) (h : ∀ i, i < 8 → d.look (m * 8 + i) = rowK b i) : ∀ k, k ≤ 8 → preB d m k = b.take (512 * k)
  | 0, _ => rfl
  | k + 1, hk => by
    show preB d m k ++ _ = _
    rw [preB_of hb h k (by omega), h k (by omega), rowK_take hb k (by omega)]
theorem pgB_of {d : Dk} {m : Nat} {b : List Int} (hb : b.length = 4096) (h : ∀ i, i < 8 → d.look (m * 8 + i) = rowK b i) : pgB d m = b := by
  unfold pgB
  rw [preB_of hb h 8 (Nat.le_refl _), List.take_of_length_le (by omega)]
theorem rowK_byte {b : List Int} (h : isB b) (i : Nat) : isB (rowK b i) := (h.drop _).take' _
/-- Pages of a disk that were written, or not yet. -/
structure KG (d : Dk) (ks : Nat → Int) (ls : Nat → List Int) : Prop where
  live : d.live
  byte : d.byte
  many : d.many = 40
  each : ∀ k : Nat, k < 5 → (ks k = 0 ∧ pgB d k = zB 4096) ∨ (okG k (ks k) (ls k).length = true ∧ isB (ls k) ∧ pgB d k = pageL k (ks k) (ls k))
theorem zero_look (n k : Nat) : (Dk.new n).look k = zB 512 := rfl
theorem zero_page (n k : Nat) : pgB (Dk.new n) k = zB 4096 := by
  have e : ∀ j, preB (Dk.new n) k j = zB (512 * j) := fun j => by
    induction j with
    | zero => rfl
    | succ j ih =>
      show preB (Dk.new n) k j ++ (Dk.new n).look (k * 8 + j) = _
      rw [ih, zero_look, ← zB_add]
      rfl
  exact e 8
theorem zB_byte (n : Nat) : isB (zB n) := fun b hb => by
  have := List.eq_of_mem_replicate hb
  omega
theorem KG.new (ls : Nat → List Int) : KG (Dk.new 40) (fun _ => 0) ls := ⟨⟨Dk.new_ok 40, rfl, rfl⟩, fun k => by rw [zero_look]; exact zB_byte 512, rfl, fun k _ => .inl ⟨rfl, zero_page 40 k⟩⟩
def updF {α : Type} (f : Nat → α) (k : Nat) (x : α) : Nat → α := fun i => if i = k then x else f i
theorem updF_same {α : Type} (f : Nat → α) (k : Nat) (x : α) : updF f k x k = x := if_pos rfl
theorem updF_other {α : Type} (f : Nat → α) {k i : Nat} (x : α) (h : i ≠ k) : updF f k x i = f i := if_neg h
/-- A page written: refused, and nothing has changed; or it is there. -/
theorem KG.write {d : Dk} {ks : Nat → Int} {ls : Nat → List Int} (h : KG d ks ls) (n : Nat) (kind : Int) {l : List Int} (hl : isB l) :
    ((d.pwr n kind l).1 ≠ 0 ∧ (d.pwr n kind l).2 = d) ∨ ((d.pwr n kind l).1 = 0 ∧ n < 5 ∧ 1 ≤ kind ∧ l.length ≤ 4085 ∧ KG (d.pwr n kind l).2 (updF ks n kind) (updF ls n l)) := by
  have hp : d.pages = 5 := by unfold Dk.pages; rw [h.many]; rfl
  by_cases c : makeE (n : Int) kind l.length = 0
  · by_cases c5 : n < 5
    · right
      have hg := okG_of c
      obtain ⟨a1, a2, a3, a4, a5⟩ := okG_yes hg
      have e : d.pwr n kind l = wrs n (pageL n kind l) 8 0 d := by
        unfold Dk.pwr
        rw [if_pos c, if_pos (by rw [hp]; omega)]
      have hlen : (pageL n kind l).length = 4096 := pageL_len a5
      have hby : isB (pageL (n : Int) kind l) := pageL_byte hl
      obtain ⟨p1, p2, p3, p4⟩ := wrs_live (m := n) hlen 8 0 d h.live (by rw [h.many]; omega) (by omega)
      rw [e]
      refine ⟨p1, c5, a3, a5, p2, fun k => ?_, p3.trans h.many, fun k hk => ?_⟩
      · rw [p4 k]
        split
        · exact rowK_byte hby _
        · exact h.byte k
      · by_cases ek : k = n
        · subst ek
          rw [updF_same, updF_same]
          refine .inr ⟨hg, hl, pgB_of hlen fun i hi => ?_⟩
          rw [p4, if_pos (by omega), Nat.add_sub_cancel_left]
        · rw [updF_other _ _ ek, updF_other _ _ ek]
          have e2 : pgB (wrs (n : Int) (pageL n kind l) 8 0 d).2 k = pgB d k := pgB_congr fun i hi => by rw [p4, if_neg (by omega)]
          rw [e2]
          exact h.each k hk
    · left
      have e : d.pwr n kind l = (1, d) := by
        unfold Dk.pwr
        rw [if_pos c, if_neg (by rw [hp]; omega)]
      rw [e]
      exact ⟨show (1 : Int) ≠ 0 by decide, rfl⟩
  · left
    have e : d.pwr n kind l = (makeE n kind l.length, d) := by unfold Dk.pwr; rw [if_neg c]
    rw [e]
    dsimp only
    refine ⟨c, ?_⟩
    exact Eq.refl d
theorem KG.look {d d' : Dk} {ks : Nat → Int} {ls : Nat → List Int} (h : KG d ks ls) (hl : d'.live) (hm : d'.many = d.many) (hk : ∀ k, d'.look k = d.look k) : KG d' ks ls :=
  ⟨hl, fun k => by rw [hk k]; exact h.byte k, hm.trans h.many, fun k hk5 => by
    have e : pgB d' k = pgB d k := pgB_congr fun i _ => hk _
    rw [e]
    exact h.each k hk5⟩
theorem KG.sync {d : Dk} {ks : Nat → Int} {ls : Nat → List Int} (h : KG d ks ls) : d.syncE = 0 ∧ d.sync = d.settle ∧ KG d.sync ks ls := by
  have e : d.sync = d.settle := by unfold Dk.sync; rw [h.live.up, h.live.does, h.live.acted]; rfl
  refine ⟨by unfold Dk.syncE Dk.errA; rw [h.live.up, h.live.goes]; rfl, e, ?_⟩
  rw [e]
  exact h.look ⟨Dk.settle_ok h.live.ok, h.live.armed, h.live.up⟩ rfl fun k => rfl
theorem stay_nil (bs : List Bool) : stay [] bs = [] := by cases bs <;> rfl
theorem KG.crash {d : Dk} {ks : Nat → Int} {ls : Nat → List Int} (h : KG d ks ls) (hw : d.wait = []) (keep : List Bool) : KG (d.crash keep) ks ls ∧ (d.crash keep).wait = [] := by
  refine ⟨h.look ⟨Dk.crash_ok h.live.ok keep, rfl, rfl⟩ rfl fun k => ?_, rfl⟩
  unfold Dk.look
  have e : (d.crash keep).now k = d.now k := by
    show over d.safe (stay d.wait keep) k = _
    rw [h.live.ok.now k, hw, stay_nil]
  rw [e]
theorem zero_sum : moreP 0 (zB 4092) ≠ 0 := by
  have e : natL (zB 4092) = List.replicate 4092 0 := by unfold natL zB; rw [List.map_replicate]; rfl
  have h : moreN 0 (List.replicate 4092 0) ≠ 0 := by decide +kernel
  unfold moreP
  rw [if_pos (by decide), e]
  exact fun h0 => h (Int.ofNat.inj h0)
theorem zero_open (m : Int) : openE (zB 4096) m = 120 := by
  unfold openE
  rw [if_pos (zB_len _), if_neg]
  have e1 : (zB 4096).drop 4 = zB 4092 := by unfold zB; rw [List.drop_replicate]
  have e2 : valB (cutB (zB 4096) 0 4) = 0 := by
    unfold cutB zB
    rw [show (0 : Int).toNat = 0 from rfl, List.drop_zero, List.take_replicate]
    rfl
  rw [e1, e2]
  exact zero_sum
/-- Such a page read. -/
theorem KG.read {d : Dk} {ks : Nat → Int} {ls : Nat → List Int} (h : KG d ks ls) {k : Nat} (hk : k < 5) : (ks k = 0 ∧ d.prE k = 120) ∨ (1 ≤ ks k ∧ d.prE k = 0 ∧ d.prK k = ks k ∧ d.prL k = ls k) := by
  have hp : d.pages = 5 := by unfold Dk.pages; rw [h.many]; rfl
  have e : d.prE (k : Int) = openE (pgB d k) k := by unfold Dk.prE; rw [if_pos (by rw [hp]; omega), h.live.up, Int.toNat_natCast]; rfl
  rcases h.each k hk with ⟨h1, h2⟩ | ⟨h1, h2, h3⟩
  · left
    exact ⟨h1, by rw [e, h2]; exact zero_open _⟩
  · right
    obtain ⟨q1, q2, q3⟩ := open_made h1 h2 (k : Int)
    have e0 : d.prE (k : Int) = 0 := by rw [e, h3, q1, if_pos rfl]
    exact ⟨(okG_yes h1).2.2.1, e0, by unfold Dk.prK; rw [if_pos e0, Int.toNat_natCast, h3]; exact q2, by unfold Dk.prL; rw [if_pos e0, Int.toNat_natCast, h3]; exact q3⟩
end Go.Proofs.YtophhnolnlbecaaDoor
