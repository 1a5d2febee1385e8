/- The document's own superblock: Make. No statement is proved here. -/
import Derived.Test.YtonjapphhbhcpaaDoorURef
import Derived.Test.YtonjapphhbhcpaaDoorUDk
import Derived.Deep.RegionHeld3
namespace Go.Proofs.YtonjapphhbhcpaaDoor
open Go.RowKit
set_option maxRecDepth 100000

/-- What Make tells. -/
def SMakeTo (s : Sup) (w : World) (e : Ending) (w' : World) : Prop := ∃ v, e = .returned (.tuple #[v, .int .i64 s.makeE]) ∧ OwnB w' w.heap.size v s.make ∧ Below w.heap.size w w'
theorem SMakeTo.no {s : Sup} {w w' : World} (h : s.ok = false) (hb : Below w.heap.size w w') : SMakeTo s w (.returned (.tuple #[.slice none 0 0, .int .i64 1])) w' :=
  ⟨_, by unfold Sup.makeE; rw [h]; rfl, by unfold Sup.make; rw [h]; exact OwnB.nil _ _, hb⟩
theorem SMakeTo.yes {s : Sup} {w w' : World} {p B : Nat} {v : Value} (h : s.ok = true) (hp : s.ver % 2 = (p : Int)) (ho : OwnB w' B v (makeL p 1 s.body)) (hb : Below w.heap.size w w') (hB : w.heap.size ≤ B) : SMakeTo s w (.returned (.tuple #[v, .int .i64 (makeE p 1 36)])) w' := by
  have hg := Sup.okG (s := s)
  rw [hp] at hg
  have e1 : makeE p 1 36 = s.makeE := by
    unfold makeE Sup.makeE
    rw [h, ← s.body_len, hg]
  have e2 : makeL p 1 s.body = s.make := by
    unfold makeL
    rw [hg, Sup.make_ok h, hp]
    rfl
  exact ⟨v, by rw [e1], (e2 ▸ ho).base hB, hb⟩
theorem box4_cells {w : World} {g : Nat} {s : Sup} (h : w.heap[g]? = some (.cells #[.int .i64 s.ver, .int .i64 s.root, .int .i64 s.ep, .int .i64 s.pag] 23)) :
    w.cell? ⟨g, 0, none⟩ = some (.int .i64 s.ver) ∧ w.cell? ⟨g, 1, none⟩ = some (.int .i64 s.root) ∧ w.cell? ⟨g, 2, none⟩ = some (.int .i64 s.ep) ∧ w.cell? ⟨g, 3, none⟩ = some (.int .i64 s.pag) := ⟨row_cells h 0, row_cells h 1, row_cells h 2, row_cells h 3⟩
set_option maxHeartbeats 4000000 in
theorem rmake14_any (s : Sup) (hi : s.In) (w : World) : Calls Tryd.prog 11 #[s.arg] w (SMakeTo s w) := by
  have HM := Lib.hid (fun w => rmay_any s hi w)
  have HB := Lib.hid (below1 w (.cells #[.int .i64 s.ver, .int .i64 s.root, .int .i64 s.ep, .int .i64 s.pag] 23))
  have HX := Lib.hid (heap_alloc_new w (.cells #[.int .i64 s.ver, .int .i64 s.root, .int .i64 s.ep, .int .i64 s.pag] 23))
  have HMk := Lib.hid (fun (n : Nat) (hp : s.ver % 2 = (n : Int)) (la : Option Addr) (c : Nat) (W : World) (hin : InB W la s.body) (hnil : la = none → c = 0 ∧ s.body = []) => refMake_any (n : Int) 1 la 36 c s.body W (by unfold okInt; omega) (by unfold okInt; omega) hin s.body_byte s.body_len hnil)
  show Calls _ _ #[.agg #[.int .i64 s.ver, .int .i64 s.root, .int .i64 s.ep, .int .i64 s.pag]] _ _
  cases h : s.ok with
  | false =>
    rw [h] at HM
    have HO := Lib.hid h
    clear h
    go_enter Tryd.func11, Tryd.ntmps11
    go_wp2_with fail
    refine (HM.out _).mono ?_
    rintro e w1 ⟨rfl, b1⟩
    have B1 := Lib.hid (below_then HB.out b1)
    clear b1
    go_wp2_with fail
    go_ret2
    exact SMakeTo.no HO.out B1.out
  | true =>
    rw [h] at HM
    have HO := Lib.hid h
    have HBd := Lib.hid (fun W => rbody_any s h W)
    have hv := (Sup.ok_yes h).1
    obtain ⟨p, hp2, hp⟩ := Sup.page h
    have hrem : s.ver.tmod 2 = (p : Int) := by rw [Int.tmod_eq_emod_of_nonneg (by omega)]; exact hp
    have HP := Lib.hid hp
    have HK := Lib.hid (HMk.out p hp)
    clear h hp
    go_enter Tryd.func11, Tryd.ntmps11
    go_wp2_with fail
    refine (HM.out _).mono ?_
    rintro e w1 ⟨rfl, b1⟩
    have B1 := Lib.hid (below_then HB.out b1)
    have x1 := row_then HX.out b1
    obtain ⟨c0, c1, c2, c3⟩ := box4_cells x1
    have X1 := Lib.hid x1
    clear b1 x1
    go_wp2_with fail
    go_region_held3 (fun w' => w'.cell? ⟨w.heap.size, 0, none⟩ = some (.int .i64 s.ver) ∧ w'.cell? ⟨w.heap.size, 1, none⟩ = some (.int .i64 s.root) ∧ w'.cell? ⟨w.heap.size, 2, none⟩ = some (.int .i64 s.ep) ∧ w'.cell? ⟨w.heap.size, 3, none⟩ = some (.int .i64 s.pag))
      (first
        | exact ⟨c0, c1, c2, c3⟩
        | exact k2
        | exact k3
        | go_keep)
      (first
        | (go_at_call 37; refine (HBd.out _).mono ?_; rintro e w2 ⟨v2, rfl, o2, b2⟩; obtain ⟨a2, q2, e2, i2, n2, -, -⟩ := o2.shape; rw [s.body_len] at e2; subst e2; have H2 := Lib.hid (And.intro i2 (And.intro n2 (below_then (Below.refl w1.heap.size w1).drew b2))); have k2 := box4_cells (row_then X1.out H2.out.2.2); clear o2 b2 i2 n2)
        | (go_at_call 36; refine (HK.out _ _ _ H2.out.1 H2.out.2.1).mono ?_; rintro e w3 ⟨v3, rfl, o3, b3⟩; have H3 := Lib.hid (And.intro o3 (below_then H2.out.2.2 b3)); have k3 := box4_cells (row_then X1.out H3.out.2); clear o3 b3))
    clear k2 k3 c0 c1 c2 c3
    go_wp2_with fail
    go_ret2
    exact SMakeTo.yes HO.out HP.out H3.out.1 (below_then B1.out H3.out.2) (Nat.le_trans B1.out.size H2.out.2.2.size)
end Go.Proofs.YtonjapphhbhcpaaDoor
