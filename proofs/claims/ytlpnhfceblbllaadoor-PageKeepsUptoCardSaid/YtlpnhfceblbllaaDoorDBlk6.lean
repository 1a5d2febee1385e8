/- Package block's Disk.Write: its contract. No statement is proved here. -/
import Derived.Test.YtlpnhfceblbllaaDoorDBlk5
namespace Go.Proofs.YtlpnhfceblbllaaDoor
open Go.RowKit
open Go.Maps (Keyed IsMap Tidy)
set_option maxRecDepth 100000

theorem Dk.write_down {d : Dk} (h : d.down = true) (at_ : Int) (l : List Int) : d.write at_ l = d ∧ d.writeE at_ l = 5 := by
  unfold Dk.write Dk.writeE; rw [if_pos h, if_pos h]; exact ⟨rfl, rfl⟩
theorem Dk.write_bad {d : Dk} (h : d.down = false) {at_ : Int} {l : List Int} (hb : d.badW at_ l.length = true) : d.write at_ l = d ∧ d.writeE at_ l = 1 := by
  simp [Dk.write, Dk.writeE, h, hb]
theorem Dk.write_good {d : Dk} (h : d.down = false) {at_ : Int} {l : List Int} (hb : d.badW at_ l.length = false) : d.write at_ l = (if d.does then d.acted.put at_.toNat l else d.acted) ∧ d.writeE at_ l = d.errA := by
  simp [Dk.write, Dk.writeE, h, hb]
structure CapsIn (w : World) (g db ab h : Nat) (k : Nat) : Prop where
  d : w.heap[db]? = some (.cells #[.pointer (some ⟨h, 0, none⟩)] 46)
  h : w.heap[h]? = some (.cells #[.pointer (some ⟨g, 0, none⟩)] 88)
  a : w.heap[ab]? = some (.cells #[.int .i64 (k : Int)] 3)
theorem CapsIn.made {w w2 : World} {g db ab h k : Nat} (c : CapsIn w g db ab h k) (hb : Below w.heap.size w w2) (v : Value) : Caps (w2.alloc (.cells #[v] 22)) g w2.heap.size db ab h v k := by
  have hb3 := below_then hb (below1 w2 (.cells #[v] 22))
  exact ⟨heap_alloc_new w2 _, (hb3.block _ (lt_of_block c.d)).trans c.d, (hb3.block _ (lt_of_block c.h)).trans c.h, (hb3.block _ (lt_of_block c.a)).trans c.a⟩
theorem Turns.drew {T : Obj → Prop} {B : Nat} {a b : World} (h : Turns T B a b) : Turns T B a b.drew := ⟨h.below.drew, h.block⟩
set_option maxHeartbeats 4000000 in
theorem dwrite_any (h g : Nat) (at_ : Int) (la : Option Addr) (n c : Nat) (l : List Int) (w : World) (B N : Nat) (d : Dk) (ha : okInt at_) (hh : w.heap[h]? = some (.cells #[.pointer (some ⟨g, 0, none⟩)] 88)) (hb : BoxAt w B g d N) (hin : InB w la l) (hB : isB l) (hn : l.length = n) (hN : N ≤ 1099511627776) :
    Calls Tryd.prog 45 #[.pointer (some ⟨h, 0, none⟩), .int .i64 at_, .slice la n c] w fun e w' => e = .returned (errV (d.writeE at_ l)) ∧ BoxAt w' B g (d.write at_ l) (N + 1) ∧ Turns TB B w w' := by
  have HB := Lib.hid hb
  obtain ⟨hok, s, hb⟩ := hb
  obtain ⟨q0, q1, q2, q3, q4, q5, q6, q7⟩ := boxC_get d s.sb s.nb s.wv
  have c0 := (hb.cells 0).trans q0
  have c7 := (hb.cells 7).trans q7
  have hm := hb.many
  have h0 := row_cells hh 0
  have hlt := lt_of_block hh
  have glt := hb.lt
  replace h0 : w.cell? ⟨h, 0, none⟩ = some (.pointer (some ⟨g, 0, none⟩)) := h0
  have HA := Lib.hid (And.intro hin (And.intro hB (And.intro hn hh)))
  have hgB := hb.gB
  have HT2 := Lib.hid (fun X Y => Turns.of_below (T := TB) (B := B) (by omega) (below2 w X Y))
  unfold okInt at ha
  clear q0 q1 q2 q3 q4 q5 q6 q7 hb hok hin hB
  by_cases hd : d.down = true
  · obtain ⟨e1, e2⟩ := Dk.write_down hd at_ l
    rw [e1, e2, errV_mk (by omega)]
    rw [hd] at c7
    clear hd e1 e2
    go_enter Tryd.func45, Tryd.ntmps45
    go_wp2_with fail
    go_ret
    exact ⟨rfl, (HB.out.then_ (below2 _ _ _)).more (by omega), HT2.out _ _⟩
  replace hd : d.down = false := by simpa using hd
  by_cases hbad : d.badW at_ l.length = true
  · obtain ⟨e1, e2⟩ := Dk.write_bad hd hbad
    rw [e1, e2, errV_mk (by omega)]
    rw [hd] at c7
    have hx : at_ < 0 ∨ (d.many : Int) ≤ at_ ∨ n ≠ 512 := by
      unfold Dk.badW at hbad
      simp at hbad
      omega
    clear hd e1 e2 hbad
    by_cases x1 : at_ < 0
    · have y1 : decide (at_ < 0) = true := decide_eq_true x1
      clear hx x1
      go_enter Tryd.func45, Tryd.ntmps45
      go_wp2_with fail
      go_region
      all_goals go_wp2_with fail
      go_ret
      exact ⟨rfl, (HB.out.then_ (below2 _ _ _).drew).more (by omega), (HT2.out _ _).drew⟩
    have y1 : decide (at_ < 0) = false := decide_eq_false x1
    by_cases x2 : (d.many : Int) ≤ at_
    · have y2 : decide ((d.many : Int) ≤ at_) = true := decide_eq_true x2
      clear hx x1 x2
      go_enter Tryd.func45, Tryd.ntmps45
      go_wp2_with fail
      go_region
      all_goals go_wp2_with fail
      go_ret
      exact ⟨rfl, (HB.out.then_ (below2 _ _ _).drew).more (by omega), (HT2.out _ _).drew⟩
    have y2 : decide ((d.many : Int) ≤ at_) = false := decide_eq_false x2
    have x3 : n ≠ 512 := by omega
    have x4 : ((n : Int) != 512) = true := by simp; omega
    clear hx
    go_enter Tryd.func45, Tryd.ntmps45
    go_wp2_with fail
    go_region
    all_goals go_wp2_with fail
    go_ret
    exact ⟨rfl, (HB.out.then_ (below2 _ _ _).drew).more (by omega), (HT2.out _ _).drew⟩
  · replace hbad : d.badW at_ l.length = false := by simpa using hbad
    obtain ⟨e1, e2⟩ := Dk.write_good hd hbad
    obtain ⟨b1, b2, b3⟩ := Dk.badW_no hbad
    rw [e1, e2]
    generalize hD : (if d.does = true then d.acted.put at_.toNat l else d.acted) = D
    rw [hd] at c7
    obtain ⟨k, rfl⟩ := Int.eq_ofNat_of_zero_le b1
    have x3 : n = 512 := by omega
    subst x3
    have HD := Lib.hid (show (if d.does = true then d.acted.put k l else d.acted) = D from hD)
    clear hD
    have y1 : decide ((k : Int) < 0) = false := decide_eq_false (by omega)
    have y2 : decide ((d.many : Int) ≤ (k : Int)) = false := decide_eq_false (by omega)
    have y3 : decide (d.many ≤ k) = false := decide_eq_false (by omega)
    clear hd e1 e2 hbad b1
    go_enter Tryd.func45, Tryd.ntmps45
    go_wp2_with fail
    go_region
    have HWb := Lib.hid (Below.drew (below2 w (.cells #[.pointer (some ⟨h, 0, none⟩)] 46) (.cells #[.int .i64 (k : Int)] 3)))
    have HLN : Hid (la = none → c = 0 ∧ l = []) := Lib.hid (fun e => by obtain ⟨_, _, _, e2, -, -⟩ := HA.out.1.one (i := 0) (by rw [HA.out.2.2.1]; omega); rw [e] at e2; cases e2)
    have HC1 : Hid (CapsIn ((w.alloc (.cells #[.pointer (some ⟨h, 0, none⟩)] 46)).alloc (.cells #[.int .i64 (k : Int)] 3)).drew g w.heap.size (w.heap.size + 1) h k) := Lib.hid ⟨((below1 (w.alloc (.cells #[.pointer (some ⟨h, 0, none⟩)] 46)) (.cells #[.int .i64 (k : Int)] 3)).block w.heap.size (by simp)).trans (heap_alloc_new w _), ((below2 w _ _).block h hlt).trans HA.out.2.2.2, heap_alloc_at (w.alloc (.cells #[.pointer (some ⟨h, 0, none⟩)] 46)) _ _ (by simp)⟩
    have HW := Lib.hid (Turns.drew (HT2.out (.cells #[.pointer (some ⟨h, 0, none⟩)] 46) (.cells #[.int .i64 (k : Int)] 3)))
    have HWB := Lib.hid (show B ≤ ((w.alloc (.cells #[.pointer (some ⟨h, 0, none⟩)] 46)).alloc (.cells #[.int .i64 (k : Int)] 3)).drew.heap.size by exact Nat.le_trans hgB (Nat.le_trans (Nat.le_of_lt glt) HWb.out.size))
    generalize ((w.alloc (.cells #[.pointer (some ⟨h, 0, none⟩)] 46)).alloc (.cells #[.int .i64 (k : Int)] 3)).drew = w1 at *
    go_wp2_with (first
      | (at_builtin; refine apR rfl (.const (.slice none 0 0)) (.tmp 37) rfl w1.heap.size _ _ rfl (OwnB.nil _ _) la 512 c l rfl HA.out.2.2.1 (HA.out.1.then_ HWb.out) HLN.out (by simp) (Nat.le_refl _) ?_; intro v w2 hg2; have HG := Lib.hid (hg2.below (OwnB.nil _ _) (Below.refl _ _) (Nat.le_refl _) (Nat.le_refl _)); have HR : Hid (RowAt w2 w1.heap.size v l) := Lib.hid ⟨by { have := hg2.own; rwa [List.nil_append] at this }, by { have := HA.out.2.2.1; omega }⟩; obtain ⟨gv, cv, ev, -⟩ := HR.out.form; rw [HA.out.2.2.1] at ev; subst ev; have HC3 := Lib.hid (HC1.out.made HG.out (.slice (some ⟨gv, 0, none⟩) 512 cv)); have x3 := HC3.out.cells; obtain ⟨x31, x32, x33, x34⟩ := x3; clear hg2)
      | (go_at_call 48; refine (act_write g _ B N (N + 1) d (fun d1 => d1.put k l) _ _ _ (HB.out.then_ ((HWb.out.trans (HG.out.mono HWb.out.size)).trans ((below1 w2 _).mono (Nat.le_trans HWb.out.size HG.out.size)))) (fun w4 d1 h1 h2 h3 => write1_any _ _ _ h g k _ l w4 B N d1 (HC3.out.turns h3) (((HR.out.base HWB.out).then_ (below1 w2 _)).turns h3 (fun cur => TB_byte _ _)) HA.out.2.2.1 (by rw [h2]; omega) hN h1) (fun d1 => rfl) (by omega)).mono ?_; rintro e w5 ⟨rfl, hb5, ht5⟩; have H5 := Lib.hid (And.intro hb5 ht5); clear hb5 ht5))
    go_ret
    exact ⟨rfl, HD.out ▸ H5.out.1, (HW.out.trans (Turns.of_below HWB.out (HG.out.trans ((below1 w2 _).mono HG.out.size)))).trans H5.out.2⟩
end Go.Proofs.YtlpnhfceblbllaaDoor
