/- Package block's Disk.Write: its contract. Package block's Disk.Write: its contract. What layer 12's statements of bytes need of the program: its two calls' contracts, in one; and the document's examples. No statement is proved here. -/
import Derived.Test.YtophhnolnlbecaaDoorDBlk4
import Derived.Test.YtophhnolnlbecaaDoorQ9
namespace Go.Proofs.YtophhnolnlbecaaDoor
open Go.RowKit
open Go.Maps (Keyed IsMap Tidy)
set_option maxRecDepth 100000

/-- The disk goes down. -/
theorem down_end {w : World} {B : Base} {g N : Nat} {d : Dk} {s : Spot} (hok : d.ok) (h : BoxOf w B g d N s) : BoxAt (w.setCell ⟨g, 7, none⟩ (.bool true)) B g { d with down := true } N ∧ Turns TB B.lo w (w.setCell ⟨g, 7, none⟩ (.bool true)) :=
  ⟨⟨⟨hok.now, hok.rowS, hok.rowW⟩, s, h.turn (d' := { d with down := true }) (fun x _ hne => set_off _ _ hne) (set_heap (i := 7) h.box (.bool true)) rfl rfl rfl rfl h.acts⟩, (Turns.refl TB B.lo w).setCell (p := ⟨g, 7, none⟩) h.box (TB_box _ _) h.gB (.bool true)⟩
/-- An act less. -/
theorem less_end {w : World} {B : Base} {g N : Nat} {d : Dk} {s : Spot} (hok : d.ok) (h : BoxOf w B g d N s) : BoxAt (w.setCell ⟨g, 5, none⟩ (.int .i64 ((d.acts - 1 : Nat) : Int))) B g { d with acts := d.acts - 1 } N ∧ Turns TB B.lo w (w.setCell ⟨g, 5, none⟩ (.int .i64 ((d.acts - 1 : Nat) : Int))) :=
  ⟨⟨⟨hok.now, hok.rowS, hok.rowW⟩, s, h.turn (d' := { d with acts := d.acts - 1 }) (fun x _ hne => set_off _ _ hne) (set_heap (i := 5) h.box (.int .i64 ((d.acts - 1 : Nat) : Int))) rfl rfl rfl rfl (by have := h.acts; show d.acts - 1 ≤ _; omega)⟩, (Turns.refl TB B.lo w).setCell (p := ⟨g, 5, none⟩) h.box (TB_box _ _) h.gB _⟩
set_option maxHeartbeats 4000000 in
theorem act_write (g : Nat) (w : World) (B : Base) (N N' : Nat) (d : Dk) (f : Dk → Dk) (a b c : Addr) (hb : BoxAt w B g d N)
    (hf : ∀ w1 d1, BoxAt w1 B g d1 N → d1.many = d.many → Turns TB B.lo w w1 → Calls Tryd.prog 72 #[.pointer (some a), .pointer (some b), .pointer (some c)] w1 fun e w' => e = .returned (.tuple #[]) ∧ BoxAt w' B g (f d1) N' ∧ Turns TB B.lo w1 w')
    (hdn : ∀ d1 : Dk, f { d1 with down := true } = { f d1 with down := true }) (hN : N ≤ N') :
    Calls Tryd.prog 59 #[.pointer (some ⟨g, 0, none⟩), .func (.func 72) #[] #[.pointer (some a), .pointer (some b), .pointer (some c)]] w fun e w' => e = .returned (errV d.errA) ∧ BoxAt w' B g (if d.does then f d.acted else d.acted) N' ∧ Turns TB B.lo w w' := by
  have HF := Lib.hid hf
  have HD := Lib.hid hdn
  clear hf hdn
  have HB := Lib.hid hb
  obtain ⟨hok, s, hb⟩ := hb
  obtain ⟨q0, q1, q2, q3, q4, q5, q6, q7⟩ := boxC_get d s.sb s.nb s.wv
  have c4 := (hb.cells 4).trans q4
  have c5 := (hb.cells 5).trans q5
  have c6 := (hb.cells 6).trans q6
  have c7 := (hb.cells 7).trans q7
  have f5 := hb.frozen 5
  have f7 := hb.frozen 7
  have HO := Lib.hid hb
  have ha := hb.acts
  clear q0 q1 q2 q3 q4 q5 q6 q7 hb hok
  by_cases h4 : d.armed = false
  · have hg : d.goes = false := by unfold Dk.goes; rw [h4]; rfl
    have h1 : d.does = true := by unfold Dk.does; rw [hg]; rfl
    have h2 : d.acted = d := by unfold Dk.acted; rw [hg, h4]; rfl
    have h3 : d.errA = 0 := by unfold Dk.errA; rw [hg]; rfl
    rw [h1, h2, h3, if_pos rfl, errV_zero]
    rw [h4] at c4
    have HC := Lib.hid (HF.out w d HB.out rfl (Turns.refl _ _ _))
    clear hg h1 h2 h3 h4
    go_enter Tryd.func59, Tryd.ntmps59
    go_wp2_with (go_at_call 72; refine HC.out.mono ?_; rintro e w1 ⟨rfl, hb1, ht1⟩)
    go_ret
    exact ⟨rfl, hb1, ht1⟩
  · replace h4 : d.armed = true := by simpa using h4
    rw [h4] at c4
    by_cases h5 : d.acts = 0
    · have hg : d.goes = true := by unfold Dk.goes; rw [h4, h5]; rfl
      have h2 : d.acted = { d with down := true } := by unfold Dk.acted; rw [hg]; rfl
      have h3 : d.errA = 5 := by unfold Dk.errA; rw [hg]; rfl
      have hz : ((d.acts : Int) == 0) = true := by rw [h5]; rfl
      rw [h2, h3, errV_mk (by omega)]
      by_cases h6 : d.done = false
      · have h1 : d.does = false := by unfold Dk.does; rw [hg]; exact h6
        rw [h6] at c6
        rw [h1, if_neg (by simp)]
        have HE := Lib.hid (down_end HB.out.1 HO.out)
        clear hg h1 h2 h3 h4 h5 h6
        go_enter Tryd.func59, Tryd.ntmps59
        go_wp2_with fail
        go_ret
        exact ⟨rfl, HE.out.1.more hN, HE.out.2⟩
      · replace h6 : d.done = true := by simpa using h6
        have h1 : d.does = true := by unfold Dk.does; rw [hg]; exact h6
        rw [h6] at c6
        rw [h1]
        have HC := Lib.hid (HF.out w d HB.out rfl (Turns.refl _ _ _))
        rw [if_pos rfl]
        clear hg h1 h2 h3 h4 h5 h6
        go_enter Tryd.func59, Tryd.ntmps59
        go_wp2_with (go_at_call 72; refine HC.out.mono ?_; rintro e w1 ⟨rfl, ⟨k1, s1, hb1⟩, ht1⟩; have HE := Lib.hid (down_end k1 hb1); have c71 := (hb1.cells 7).trans (boxC_get (f d) s1.sb s1.nb s1.wv).2.2.2.2.2.2.2; have f71 := hb1.frozen 7; have HT := Lib.hid ht1; clear k1 hb1 ht1)
        go_ret
        exact ⟨rfl, by rw [HD.out]; exact HE.out.1, HT.out.trans HE.out.2⟩
    · have hg : d.goes = false := by unfold Dk.goes; rw [h4]; simp [h5]
      have h1 : d.does = true := by unfold Dk.does; rw [hg]; rfl
      have h2 : d.acted = { d with acts := d.acts - 1 } := by unfold Dk.acted; rw [hg, h4]; rfl
      have h3 : d.errA = 0 := by unfold Dk.errA; rw [hg]; rfl
      have hz : ((d.acts : Int) == 0) = false := by simp; omega
      have hw : wrap64 ((d.acts : Int) - 1) = ((d.acts - 1 : Nat) : Int) := by simp only [wrap64]; omega
      have hw2 : (d.acts : Int) - 1 = ((d.acts - 1 : Nat) : Int) := by omega
      rw [h1, h2, h3, if_pos rfl, errV_zero]
      have HA := Lib.hid (less_end HB.out.1 HO.out)
      have HC := Lib.hid (HF.out _ _ HA.out.1 rfl HA.out.2)
      clear hg h1 h2 h3 h4
      go_enter Tryd.func59, Tryd.ntmps59
      go_wp2_with (go_at_call 72; (first | rw [hw] | rw [hw2] | skip); refine HC.out.mono ?_; rintro e w1 ⟨rfl, hb1, ht1⟩)
      go_ret
      exact ⟨rfl, hb1, HA.out.2.trans ht1⟩
end Go.Proofs.YtophhnolnlbecaaDoor
namespace Go.Proofs.YtophhnolnlbecaaDoor
open Go.RowKit
open Go.Maps (Keyed IsMap Tidy)
set_option maxRecDepth 100000

theorem Dk.write_down {d : Dk} (h : d.down = true) (at_ : Int) (l : List Int) : d.write at_ l = d ∧ d.writeE at_ l = 5 := by
  unfold Dk.write Dk.writeE; rw [if_pos h, if_pos h]; exact ⟨rfl, rfl⟩
theorem Dk.write_bad {d : Dk} (h : d.down = false) {at_ : Int} {l : List Int} (hb : d.badW at_ l.length = true) : d.write at_ l = d ∧ d.writeE at_ l = 1 := by
  simp [Dk.write, Dk.writeE, h, hb]
theorem Dk.write_good {d : Dk} (h : d.down = false) {at_ : Int} {l : List Int} (hb : d.badW at_ l.length = false) : d.write at_ l = (if d.does then d.acted.put at_.toNat l else d.acted) ∧ d.writeE at_ l = d.errA := by
  simp [Dk.write, Dk.writeE, h, hb]
structure CapsIn (w : World) (g db ab h : Nat) (k : Nat) : Prop where
  d : w.heap[db]? = some (.cells #[.pointer (some ⟨h, 0, none⟩)] 41)
  h : w.heap[h]? = some (.cells #[.pointer (some ⟨g, 0, none⟩)] 86)
  a : w.heap[ab]? = some (.cells #[.int .i64 (k : Int)] 3)
theorem CapsIn.made {w w2 : World} {g db ab h k : Nat} (c : CapsIn w g db ab h k) (hb : Below w.heap.size w w2) (v : Value) : Caps (w2.alloc (.cells #[v] 22)) g w2.heap.size db ab h v k := by
  have hb3 := below_then hb (below1 w2 (.cells #[v] 22))
  exact ⟨heap_alloc_new w2 _, (hb3.block _ (lt_of_block c.d)).trans c.d, (hb3.block _ (lt_of_block c.h)).trans c.h, (hb3.block _ (lt_of_block c.a)).trans c.a⟩
theorem Turns.drew {T : Obj → Prop} {B : Nat} {a b : World} (h : Turns T B a b) : Turns T B a b.drew := ⟨h.below.drew, h.block⟩
set_option maxHeartbeats 4000000 in
theorem dwrite_any (h g : Nat) (at_ : Int) (la : Option Addr) (n c : Nat) (l : List Int) (w : World) (B : Base) (N : Nat) (d : Dk) (ha : okInt at_) (hh : w.heap[h]? = some (.cells #[.pointer (some ⟨g, 0, none⟩)] 86)) (hb : BoxAt w B g d N) (hin : InB w la l) (hB : isB l) (hn : l.length = n) (hN : N ≤ 1099511627776) (hX : ∀ y, B.off y → y < w.heap.size) :
    Calls Tryd.prog 51 #[.pointer (some ⟨h, 0, none⟩), .int .i64 at_, .slice la n c] w fun e w' => e = .returned (errV (d.writeE at_ l)) ∧ BoxAt w' B g (d.write at_ l) (N + 1) ∧ Turns TB B.lo w w' := by
  have HB := Lib.hid hb
  have HXO := Lib.hid hX
  clear hX
  obtain ⟨hok, s, hb⟩ := hb
  obtain ⟨q0, q1, q2, q3, q4, q5, q6, q7⟩ := boxC_get d s.sb s.nb s.wv
  have c0 := (hb.cells 0).trans q0
  have c7 := (hb.cells 7).trans q7
  have hm := hb.many
  have h0 := row_cells hh 0
  have hlt := lt_of_block hh
  have glt := hb.lt
  replace h0 : w.cell? ⟨h, 0, none⟩ = some (.pointer (some ⟨g, 0, none⟩)) := h0
  have HA := Lib.hid (And.intro hin (And.intro hB (And.intro hn hh)))
  have hgB := hb.gB
  have HT2 := Lib.hid (fun X Y => Turns.of_below (T := TB) (B := B.lo) (by omega) (below2 w X Y))
  unfold okInt at ha
  clear q0 q1 q2 q3 q4 q5 q6 q7 hb hok hin hB
  by_cases hd : d.down = true
  · obtain ⟨e1, e2⟩ := Dk.write_down hd at_ l
    rw [e1, e2, errV_mk (by omega)]
    rw [hd] at c7
    clear hd e1 e2
    go_enter Tryd.func51, Tryd.ntmps51
    go_wp2_with fail
    go_ret
    exact ⟨rfl, (HB.out.then_ (below2 _ _ _)).more (by omega), HT2.out _ _⟩
  replace hd : d.down = false := by simpa using hd
  by_cases hbad : d.badW at_ l.length = true
  · obtain ⟨e1, e2⟩ := Dk.write_bad hd hbad
    rw [e1, e2, errV_mk (by omega)]
    rw [hd] at c7
    have hx : at_ < 0 ∨ (d.many : Int) ≤ at_ ∨ n ≠ 512 := by
      unfold Dk.badW at hbad
      simp at hbad
      omega
    clear hd e1 e2 hbad
    by_cases x1 : at_ < 0
    · have y1 : decide (at_ < 0) = true := decide_eq_true x1
      clear hx x1
      go_enter Tryd.func51, Tryd.ntmps51
      go_wp2_with fail
      go_region
      all_goals go_wp2_with fail
      go_ret
      exact ⟨rfl, (HB.out.then_ (below2 _ _ _).drew).more (by omega), (HT2.out _ _).drew⟩
    have y1 : decide (at_ < 0) = false := decide_eq_false x1
    by_cases x2 : (d.many : Int) ≤ at_
    · have y2 : decide ((d.many : Int) ≤ at_) = true := decide_eq_true x2
      clear hx x1 x2
      go_enter Tryd.func51, Tryd.ntmps51
      go_wp2_with fail
      go_region
      all_goals go_wp2_with fail
      go_ret
      exact ⟨rfl, (HB.out.then_ (below2 _ _ _).drew).more (by omega), (HT2.out _ _).drew⟩
    have y2 : decide ((d.many : Int) ≤ at_) = false := decide_eq_false x2
    have x3 : n ≠ 512 := by omega
    have x4 : ((n : Int) != 512) = true := by simp; omega
    clear hx
    go_enter Tryd.func51, Tryd.ntmps51
    go_wp2_with fail
    go_region
    all_goals go_wp2_with fail
    go_ret
    exact ⟨rfl, (HB.out.then_ (below2 _ _ _).drew).more (by omega), (HT2.out _ _).drew⟩
  · replace hbad : d.badW at_ l.length = false := by simpa using hbad
    obtain ⟨e1, e2⟩ := Dk.write_good hd hbad
    obtain ⟨b1, b2, b3⟩ := Dk.badW_no hbad
    rw [e1, e2]
    generalize hD : (if d.does = true then d.acted.put at_.toNat l else d.acted) = D
    rw [hd] at c7
    obtain ⟨k, rfl⟩ := Int.eq_ofNat_of_zero_le b1
    have x3 : n = 512 := by omega
    subst x3
    have HD := Lib.hid (show (if d.does = true then d.acted.put k l else d.acted) = D from hD)
    clear hD
    have y1 : decide ((k : Int) < 0) = false := decide_eq_false (by omega)
    have y2 : decide ((d.many : Int) ≤ (k : Int)) = false := decide_eq_false (by omega)
    have y3 : decide (d.many ≤ k) = false := decide_eq_false (by omega)
    clear hd e1 e2 hbad b1
    go_enter Tryd.func51, Tryd.ntmps51
    go_wp2_with fail
    go_region
    have HWb := Lib.hid (Below.drew (below2 w (.cells #[.pointer (some ⟨h, 0, none⟩)] 41) (.cells #[.int .i64 (k : Int)] 3)))
    have HLN : Hid (la = none → c = 0 ∧ l = []) := Lib.hid (fun e => by obtain ⟨_, _, _, e2, -, -⟩ := HA.out.1.one (i := 0) (by rw [HA.out.2.2.1]; omega); rw [e] at e2; cases e2)
    have HC1 : Hid (CapsIn ((w.alloc (.cells #[.pointer (some ⟨h, 0, none⟩)] 41)).alloc (.cells #[.int .i64 (k : Int)] 3)).drew g w.heap.size (w.heap.size + 1) h k) := Lib.hid ⟨((below1 (w.alloc (.cells #[.pointer (some ⟨h, 0, none⟩)] 41)) (.cells #[.int .i64 (k : Int)] 3)).block w.heap.size (by simp)).trans (heap_alloc_new w _), ((below2 w _ _).block h hlt).trans HA.out.2.2.2, heap_alloc_at (w.alloc (.cells #[.pointer (some ⟨h, 0, none⟩)] 41)) _ _ (by simp)⟩
    have HW := Lib.hid (Turns.drew (HT2.out (.cells #[.pointer (some ⟨h, 0, none⟩)] 41) (.cells #[.int .i64 (k : Int)] 3)))
    have HWB := Lib.hid (show B.lo ≤ ((w.alloc (.cells #[.pointer (some ⟨h, 0, none⟩)] 41)).alloc (.cells #[.int .i64 (k : Int)] 3)).drew.heap.size by exact Nat.le_trans hgB (Nat.le_trans (Nat.le_of_lt glt) HWb.out.size))
    generalize ((w.alloc (.cells #[.pointer (some ⟨h, 0, none⟩)] 41)).alloc (.cells #[.int .i64 (k : Int)] 3)).drew = w1 at *
    go_wp2_with (first
      | (at_builtin; refine apR rfl (.const (.slice none 0 0)) (.tmp 37) rfl w1.heap.size _ _ rfl (OwnB.nil _ _) la 512 c l rfl HA.out.2.2.1 (HA.out.1.then_ HWb.out) HLN.out (by simp) (Nat.le_refl _) ?_; intro v w2 hg2; have HG := Lib.hid (hg2.below (OwnB.nil _ _) (Below.refl _ _) (Nat.le_refl _) (Nat.le_refl _)); have HR : Hid (RowAt w2 w1.heap.size v l) := Lib.hid ⟨by { have := hg2.own; rwa [List.nil_append] at this }, by { have := HA.out.2.2.1; omega }, fun _ _ e => by cases e⟩; obtain ⟨gv, cv, ev, -⟩ := HR.out.form; rw [HA.out.2.2.1] at ev; subst ev; have HC3 := Lib.hid (HC1.out.made HG.out (.slice (some ⟨gv, 0, none⟩) 512 cv)); have x3 := HC3.out.cells; obtain ⟨x31, x32, x33, x34⟩ := x3; clear hg2)
      | (go_at_call 59; refine (act_write g _ B N (N + 1) d (fun d1 => d1.put k l) _ _ _ (HB.out.then_ ((HWb.out.trans (HG.out.mono HWb.out.size)).trans ((below1 w2 _).mono (Nat.le_trans HWb.out.size HG.out.size)))) (fun w4 d1 h1 h2 h3 => write1_any _ _ _ h g k _ l w4 B N d1 (HC3.out.turns h3) (((HR.out.base HWB.out (fun b hb e => Nat.lt_irrefl b (Nat.lt_of_lt_of_le (HXO.out b e) (Nat.le_trans HWb.out.size (HR.out.block b hb).choose_spec.2.1)))).then_ (below1 w2 _)).turns h3 (fun cur => TB_byte _ _)) HA.out.2.2.1 (by rw [h2]; omega) hN h1) (fun d1 => rfl) (by omega)).mono ?_; rintro e w5 ⟨rfl, hb5, ht5⟩; have H5 := Lib.hid (And.intro hb5 ht5); clear hb5 ht5))
    go_ret
    exact ⟨rfl, HD.out ▸ H5.out.1, (HW.out.trans (Turns.of_below HWB.out (HG.out.trans ((below1 w2 _).mono HG.out.size)))).trans H5.out.2⟩
end Go.Proofs.YtophhnolnlbecaaDoor
namespace Go.Proofs.YtophhnolnlbecaaDoor
open Go.RowKit
set_option maxRecDepth 100000

/-- What Make tells. -/
def MakeTo (number kind : Int) (l : List Int) (w : World) (e : Ending) (w' : World) : Prop := ∃ v, e = .returned (.tuple #[v, .int .i64 (makeE number kind l.length)]) ∧ OwnB w' w.heap.size v (makeL number kind l) ∧ Below w.heap.size w w'
def exG : List Int := [7, 8]
theorem exG_b : isB exG := isB_of (by decide)
theorem exG_ok : okG 3 2 exG.length = true := by decide
theorem exG_make : makeE 3 2 2 = 0 ∧ makeL 3 2 exG = pageL 3 2 exG := ⟨by decide, by unfold makeL; rw [if_pos exG_ok]⟩
theorem exG_open : openE (pageL 3 2 exG) 3 = 0 ∧ openK (pageL 3 2 exG) 3 = 2 ∧ openL (pageL 3 2 exG) 3 = [7, 8] ∧ openE (pageL 3 2 exG) 4 = 121 := by
  have h := open_made exG_ok exG_b 3
  have h4 := open_made exG_ok exG_b 4
  exact ⟨by rw [h.1]; rfl, h.2.1, h.2.2, by rw [h4.1]; rfl⟩
theorem exG_at : (pageL 3 2 exG)[4]? = some 3 ∧ (pageL 3 2 exG)[11]? = some 7 ∧ (pageL 3 2 exG).length = 4096 := by
  refine ⟨?_, ?_, pageL_len (by decide)⟩
  · unfold pageL; rw [List.getElem?_append_right (by rw [leB_len]; omega), leB_len]; rfl
  · unfold pageL; rw [List.getElem?_append_right (by rw [leB_len]; omega), leB_len]; rfl
theorem exG_nil : openE [] 3 = 122 := by unfold openE; rw [if_neg (by decide)]
theorem exG_byte : isB (pageL 3 2 exG) := pageL_byte exG_b
end Go.Proofs.YtophhnolnlbecaaDoor
